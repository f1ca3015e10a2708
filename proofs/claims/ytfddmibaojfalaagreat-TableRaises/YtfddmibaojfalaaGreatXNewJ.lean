import Derived.Test.YtfddmibaojfalaaGreatXNewX
import Derived.Test.YtfddmibaojfalaaGreatZFind
/- The program's New. -/
namespace Go.Proofs.YtfddmibaojfalaaGreat
open Go.RowKit Go.Maps

/-- only blocks of a catalogue, or none of cells, between two bounds -/
def CatQ (w : World) (base top i : Nat) : Prop := base ≤ i ∧ i < top ∧ ∀ c t z, w.heap[i]? = some (.cells c t z) → t = 84
/-- data without a table, in blocks from base on, below top -/
structure D0 (w : World) (base up d c m : Nat) : Prop where
  top : w.heap[d]? = some (.cells #[.pointer (some ⟨c, 0, none⟩), .map (some m)] 57 (0, 0))
  map : w.ownsMap Tryz.prog 9 heldR m 0 (Dk.toD tokP [])
  cat : ∃ F, CatI c [] w F ∧ ∀ i, F i → CatQ w base up i ∧ i ≠ d ∧ i ≠ m
  lo : base ≤ d ∧ base ≤ m ∧ d ≠ m
  hi : d < up ∧ m < up ∧ up ≤ w.heap.size

set_option maxHeartbeats 400000 in
theorem new15_any (w : World) : Calls Tryz.prog 5 #[] w fun e w' => ∃ d c m, e = .returned (.pointer (some ⟨d, 0, none⟩)) ∧ Hid (D0 w' w.heap.size w'.heap.size d c m) ∧ Hid (Below w.heap.size w w') := by
  have hmm := @run_makeMap Tryz.prog
  have HN : Hid (Calls Tryz.prog 12 #[] w fun e w' => ∃ c, e = .returned (.pointer (some ⟨c, 0, none⟩)) ∧ Hid (∃ F, CatI c [] w' F ∧ (∀ i, F i → w.heap.size ≤ i) ∧ Below w.heap.size w w')) := new_any w
  go_enter Tryz.func5, Tryz.ntmps5
  go_wp2_with (go_at_call 12; go_must (refine HN.out.mono ?_; rintro e w1 ⟨c, rfl, H1⟩))
  go_ret
  obtain ⟨F, f1, f2, f3⟩ := H1.out
  have b1 : Below w1.heap.size w1 (w1.alloc (.map #[] 0)) := (Below.refl _ _).alloc (Nat.le_refl _) _
  obtain ⟨u, hu⟩ : ∃ u, w1.alloc (.map #[] 0) = u := ⟨_, rfl⟩
  have hm : u.ownsMap Tryz.prog 9 heldR w1.heap.size 0 (.map []) := by rw [← hu]; exact World.ownsMap_made w1 _ _ _
  have hz : u.heap.size = w1.heap.size + 1 := by rw [← hu]; simp
  rw [hu] at b1 ⊢
  have b2 : Below u.heap.size u (u.alloc (.cells #[.pointer (some ⟨c, 0, none⟩), .map (some w1.heap.size)] 57)) := (Below.refl _ _).alloc (Nat.le_refl _) _
  have ht := heap_new u (.cells #[.pointer (some ⟨c, 0, none⟩), .map (some w1.heap.size)] 57)
  obtain ⟨v, hv⟩ : ∃ v, u.alloc (.cells #[.pointer (some ⟨c, 0, none⟩), .map (some w1.heap.size)] 57) = v := ⟨_, rfl⟩
  rw [hv] at b2 ht ⊢
  rw [hz] at ht
  have b12 : Below w1.heap.size w1 v := b1.trans (b2.mono b1.size)
  have hs := f3.size
  refine ⟨w1.heap.size + 1, c, w1.heap.size, rfl, ⟨ht, ?_, ⟨F, ?_, fun i hi => ?_⟩, ⟨by omega, by omega, by omega⟩, lt_of ht, ?_, Nat.le_refl _⟩, f3.trans (b12.mono f3.size)⟩
  · exact ownsMap_block hm (b2.block _ (by omega))
  · obtain ⟨m, G, hG, hL, hF⟩ := f1
    exact ⟨m, G, hG.kept fun i hi => b12.block i (hG.lt hi), hL, hF⟩
  · obtain ⟨m, G, hG, hL, hF⟩ := f1
    have hlt := hG.lt ((hF i).1 hi)
    have hsz := b12.size
    refine ⟨⟨f2 i hi, by omega, fun c' t z e => ?_⟩, by omega, by omega⟩
    have e1 : w1.heap[i]? = some (.cells c' t z) := by rw [← b12.block i hlt]; exact e
    have hGn : G = [] := by
      cases G with
      | nil => rfl
      | cons g G => rw [Dk.mapL] at hL; simp at hL
    subst hGn
    rcases (hF i).1 hi with rfl | rfl | ⟨p, hp, _⟩
    · rw [hG.top] at e1
      cases e1
      rfl
    · obtain ⟨es, clock, hb, _⟩ := hG.map
      rw [hb] at e1
      cases e1
    · cases hp
  · have := lt_of ht
    omega

end Go.Proofs.YtfddmibaojfalaaGreat

/- The program's Create, of a schema that may be, in data without a table. -/
namespace Go.Proofs.YtfddmibaojfalaaGreat
open Go.RowKit Go.Maps

theorem by_key8 {R : Prop} {C m : World → Nat → Option Addr → Nat → Nat → Option Addr → Nat → Nat → Prop} (main : Hid (∀ W p a b c d e f, C W p a b c d e f → m W p a b c d e f) → R) (k : ∀ W p a b c d e f, C W p a b c d e f → m W p a b c d e f) : R := main k
/-- what Create leaves -/
def CrR (base top d m : Nat) (T : Tab) (Px : TS → Prop) (w : World) (e : Ending) (w' : World) : Prop := e = .returned (.int .i64 0) ∧ ∃ tb S, DG w' d m tb S ∧ S.T = T ∧ S.kcols = [0] ∧ S.R = [] ∧ Px S ∧ (∀ i, W tb S i → w.heap.size ≤ i) ∧ Turn (fun i => CatQ w base top i) w w'
theorem one_put (T : Tab) (h : T.may = true) : crE [] T = 0 ∧ crL [] T = [(kb T.nm, T)] := by
  have e : crE [] T = 0 := by unfold crE; rw [if_pos h]; rfl
  exact ⟨e, by unfold crL; rw [if_pos e]; rfl⟩
theorem map_one {w : World} {m tb : Nat} {nm : ByteArray} (h : w.ownsMap Tryz.prog 9 heldR m 0 (Dk.toD tokP [])) (hn : nm.size ≤ maxLen) : ∃ w', (Instr.mapUpdate 55 (.map (some m)) (.string nm) (.pointer (some ⟨tb, 0, none⟩))).run Tryz.prog w = .ok () w' ∧ MapD w' m tb nm ∧ Turn (fun i => i = m) w w' := by
  obtain ⟨w', hrun, k1, k2⟩ := h.store keyed Tryz.underlying55 (by unfold maxLen; omega) (keyOfS (k := nm) hn) (val := .pointer (some ⟨tb, 0, none⟩)) (d := tokP tb) (ps := []) rfl
  refine ⟨w', hrun, ?_, turn_of_map k2⟩
  have := ownsMap_exact k1
  rw [Dk.toD_put, Dk.toD_size] at this
  exact this

/-- what the catalogue has told, kept in a block of its own -/
def Own4 (w2 : World) (nm : ByteArray) (key : Int) (T : Tab) (W : World) (p : Nat) (a : Option Addr) (b k : Nat) (a' : Option Addr) (b' k' : Nat) : Prop := Below w2.heap.size w2 W ∧ W.heap[p]? = some (tabBox nm a b k key a' b' k') ∧ ∃ X, TabO W 0 (.slice a b k) (.slice a' b' k') X T
theorem TabO.keep15 {w u : World} {cv iv : Value} {X : List Iv} {T : Tab} (h : TabO w 0 cv iv X T) (k : ∀ (g : Nat) (c : Array Value) (t : TypeId), w.heap[g]? = some (.cells c t (0, 0)) → t ≠ 29 → u.heap[g]? = w.heap[g]?) : TabO u 0 cv iv X T := by
  have key : ∀ {e : TypeId} {size n : Nat} {v : Value} {xs : List Value}, w.ownsRow 0 e size v n xs → e ≠ 29 → u.ownsRow 0 e size v n xs := fun hr he => ownsRow_block hr fun g hg => by
    obtain ⟨cur, hc, _⟩ := ownsRow_own hr hg
    exact k g _ _ hc he
  exact ⟨key h.co (by decide), key h.ix (by decide), h.eq, fun x hx => key (h.nums x hx) (by decide)⟩
theorem TabO.below15 {w u : World} {cv iv : Value} {X : List Iv} {T : Tab} (h : TabO w 0 cv iv X T) (hu : Below w.heap.size w u) : TabO u 0 cv iv X T := h.keep15 fun g _ _ hc _ => hu.block g (lt_of hc)
theorem own4_fin {w2 U : World} {nm : ByteArray} {key : Int} {T : Tab} {p : Nat} {a : Option Addr} {b k : Nat} {a' : Option Addr} {b' k' : Nat} {X : List Iv} (u1 : Below w2.heap.size w2 U) (u2 : U.heap[p]? = some tabZ) (u3 : w2.heap.size ≤ p) (u4 : TabO U 0 (.slice a b k) (.slice a' b' k') X T) : Own4 w2 nm key T (set4 U p (.string nm) (.slice a b k) (.int .i64 key) (.slice a' b' k')) p a b k a' b' k' := by
  have t := set4_turn U p (.string nm) (.slice a b k) (.int .i64 key) (.slice a' b' k')
  refine ⟨turn_new u1 u3 t, set4_heap u2 _ _ _ _, X, u4.keep15 fun g c ty hc ht => t.block g (lt_of hc) (fun e => ?_)⟩
  have e' : g = p := e
  rw [e', u2] at hc
  cases hc
  exact ht rfl
theorem box_cells15 {u : World} {xb : Nat} {nm : ByteArray} {ca ia : Option Addr} {N cc M ic : Nat} {key : Int} (hu : u.heap[xb]? = some (tabBox nm ca N cc key ia M ic)) : u.cell? ⟨xb, 0, none⟩ = some (.string nm) ∧ u.cell? ⟨xb, 1, none⟩ = some (.slice ca N cc) ∧ u.cell? ⟨xb, 2, none⟩ = some (.int .i64 key) ∧ u.cell? ⟨xb, 3, none⟩ = some (.slice ia M ic) :=
  ⟨by rw [cell_of hu]; rfl, by rw [cell_of hu]; rfl, by rw [cell_of hu]; rfl, by rw [cell_of hu]; rfl⟩

set_option linter.unusedSimpArgs false in
set_option maxRecDepth 100000 in
set_option maxHeartbeats 4000000 in
theorem create15 {w w0 : World} {base top d c m : Nat} (h : D0 w base top d c m) (hb : Below w0.heap.size w0 w) (cv iv : Value) (T : Tab) (h0 : TabV w0 cv iv T) (hr : Rg T) (hn63 : T.nm.size ≤ maxLen) (hmay : T.may = true) (Px : TS → Prop)
    (hnew : ∀ u cv' iv' X', TabO u 0 cv' iv' X' T → Calls Tryz.prog 15 #[tabVal cv' iv' T] u (NewTR T Px u)) :
    Calls Tryz.prog 6 #[.pointer (some ⟨d, 0, none⟩), tabVal cv iv T] w (CrR base top d m T Px w) := by
  obtain ⟨F, hF1, hF2⟩ := h.cat
  have HF : Hid (CatI c [] w F ∧ (∀ i, F i → CatQ w base top i ∧ i ≠ d ∧ i ≠ m) ∧ ∀ i, F i → i < w.heap.size) := ⟨hF1, hF2, fun i hi => by
    obtain ⟨m, G, hG, hL, hF⟩ := hF1
    exact hG.lt ((hF i).1 hi)⟩
  have HC : Hid (∀ u, Below w.heap.size w u → Calls Tryz.prog 13 #[.pointer (some ⟨c, 0, none⟩), tabVal cv iv T] u (CreR c [] T u F)) := fun u hu => by
    have hk : CatI c [] u F := by
      obtain ⟨m, G, hG, hL, hF⟩ := HF.out.1
      exact ⟨m, G, hG.kept fun i hi => hu.block i (hG.lt hi), hL, hF⟩
    exact create_any c [] cv iv T u w0 F (hb.trans (hu.mono hb.size)) h0 hr hn63 hk
  obtain ⟨g1, X, g2, g3, g4⟩ := h0
  obtain ⟨ca, cc, rfl, s1, s2⟩ := slice_shape g1
  obtain ⟨ia, ic, rfl, t1, t2⟩ := slice_shape g2
  obtain ⟨N, hNn⟩ : ∃ N, T.co.length = N := ⟨_, rfl⟩
  obtain ⟨M, hMm⟩ : ∃ M, X.length = M := ⟨_, rfl⟩
  obtain ⟨key, hkey⟩ : ∃ key, T.key = key := ⟨_, rfl⟩
  obtain ⟨nm, hnm⟩ : ∃ nm, T.nm = nm := ⟨_, rfl⟩
  have HNm : Hid (T.nm = nm ∧ T.key = key ∧ T.nm.size ≤ maxLen) := ⟨hnm, hkey, hn63⟩
  have HOne : Hid (crE [] T = 0 ∧ crL [] T = [(kb T.nm, T)]) := one_put T hmay
  have HD : Hid (D0 w base top d c m) := h
  have HNew : Hid (∀ u a n k a' n' k' X', TabO u 0 (.slice a n k) (.slice a' n' k') X' T → Calls Tryz.prog 15 #[.agg #[.string nm, .slice a n k, .int .i64 key, .slice a' n' k']] u (NewTR T Px u)) := fun u a n k a' n' k' X' ht => by
    have := hnew u _ _ X' ht
    unfold tabVal at this
    rw [hnm, hkey] at this
    exact this
  unfold tabVal CreR at HC
  unfold tabVal
  rw [HOne.out.1] at HC
  rw [hNn, hMm, hkey, hnm] at HC ⊢
  obtain ⟨xb, hxb⟩ : ∃ xb, w.heap.size = xb := ⟨_, rfl⟩
  obtain ⟨w1, hw1⟩ : ∃ w1, w.alloc (tabBox nm ca N cc key ia M ic) = w1 := ⟨_, rfl⟩
  have hx1 : w1.heap[xb]? = some (tabBox nm ca N cc key ia M ic) := by rw [← hw1, ← hxb]; exact heap_new w _
  have HB1 : Hid (Below w.heap.size w w1) := by show Below _ _ _; rw [← hw1]; exact (Below.refl _ _).alloc (Nat.le_refl _) _
  have hd1 := (HB1.out.block d (lt_of h.top)).trans h.top
  have HXs : Hid (∀ u : World, u.heap[xb]? = some (tabBox nm ca N cc key ia M ic) → u.cell? ⟨xb, 0, none⟩ = some (.string nm) ∧ u.cell? ⟨xb, 1, none⟩ = some (.slice ca N cc) ∧ u.cell? ⟨xb, 2, none⟩ = some (.int .i64 key) ∧ u.cell? ⟨xb, 3, none⟩ = some (.slice ia M ic)) := fun u hu => box_cells15 hu
  have HDs : Hid (∀ u : World, u.heap[d]? = some (.cells #[.pointer (some ⟨c, 0, none⟩), .map (some m)] 57 (0, 0)) → u.cell? ⟨d, 0, none⟩ = some (.pointer (some ⟨c, 0, none⟩)) ∧ u.cell? ⟨d, 1, none⟩ = some (.map (some m)) ∧ d < u.heap.size) := fun u hu => ⟨by rw [cell_of hu]; rfl, by rw [cell_of hu]; rfl, lt_of hu⟩
  have H1 : Hid (w1.heap[xb]? = some (tabBox nm ca N cc key ia M ic) ∧ w1.heap[d]? = some (.cells #[.pointer (some ⟨c, 0, none⟩), .map (some m)] 57 (0, 0)) ∧ w.heap.size = xb ∧ w1.heap.size = xb + 1) := ⟨hx1, hd1, hxb, by rw [← hw1, ← hxb]; simp⟩
  obtain ⟨p0, p1, p2, p3⟩ := HXs.out w1 hx1
  obtain ⟨q0, q1, q2⟩ := HDs.out w1 hd1
  clear h hb hr hn63 hmay hnew hF1 hF2 g1 g2 g3 g4 hNn hMm hkey hnm s1 s2 t1 t2 hx1 hd1
  go_enter Tryz.func6, Tryz.ntmps6
  go_upto_region 1 with fail
  clear hw1 hxb p0 p1 p2 p3 q0 q1 q2
  refine wp_region_held_drew (S := fun u => u.cell? ⟨d, 0, none⟩ = some (.pointer (some ⟨c, 0, none⟩)) ∧ u.cell? ⟨xb, 0, none⟩ = some (.string nm) ∧ u.cell? ⟨xb, 1, none⟩ = some (.slice ca N cc) ∧ u.cell? ⟨xb, 2, none⟩ = some (.int .i64 key) ∧ u.cell? ⟨xb, 3, none⟩ = some (.slice ia M ic)) (by kernel_rfl) ⟨(HDs.out w1.drew H1.out.2.1).1, HXs.out w1.drew H1.out.1⟩ (fun hHeld => ?_)
  refine take_dst (i := 0) (dst := 8) (v := ?v8a) rfl rfl (by kernel_rfl) (by kernel_rfl) (by kernel_rfl) (fun _ _ _ h => h) (Or.inl ⟨by rfl, ?hy8a⟩) (by assumption) ?rest8a
  case hy8a => intro w hSw; (try dsimp only at hSw); go_simp; try with_reducible rfl
  try simp only [List.setIfInBounds_toArray, List.set_cons_zero, List.set_cons_succ]
  refine take_dst (i := 1) (dst := 9) (v := ?v9a) rfl rfl (by kernel_rfl) (by kernel_rfl) (by kernel_rfl) (fun _ _ _ h => h) (Or.inl ⟨by rfl, ?hy9a⟩) (by assumption) ?rest9a
  case hy9a => intro w hSw; (try dsimp only at hSw); go_simp; try with_reducible rfl
  try simp only [List.setIfInBounds_toArray, List.set_cons_zero, List.set_cons_succ]
  refine take_dst (i := 2) (dst := 10) (v := ?v10a) rfl rfl (by kernel_rfl) (by kernel_rfl) (by kernel_rfl) (fun _ _ _ h => h) (Or.inl ⟨by rfl, ?hy10a⟩) (by assumption) ?rest10a
  case hy10a => intro w hSw; (try dsimp only at hSw); go_simp; try with_reducible rfl
  try simp only [List.setIfInBounds_toArray, List.set_cons_zero, List.set_cons_succ]
  refine take_dst (i := 3) (dst := 11) (v := ?v11a) rfl rfl (by kernel_rfl) (by kernel_rfl) (by kernel_rfl) (fun _ _ _ h => h) (Or.inl ⟨by rfl, ?hy11a⟩) (by assumption) ?rest11a
  case hy11a => intro w hSw; (try dsimp only at hSw); go_simp; try with_reducible rfl
  try simp only [List.setIfInBounds_toArray, List.set_cons_zero, List.set_cons_succ]
  refine take_dst (i := 4) (dst := 12) (v := ?v12a) rfl rfl (by kernel_rfl) (by kernel_rfl) (by kernel_rfl) (fun _ _ _ h => h) (Or.inl ⟨by rfl, ?hy12a⟩) (by assumption) ?rest12a
  case hy12a => intro w hSw; (try dsimp only at hSw); go_simp; try with_reducible rfl
  try simp only [List.setIfInBounds_toArray, List.set_cons_zero, List.set_cons_succ]
  refine wpAnyH_ready (rs := [5]) (by kernel_rfl) (by simp) ?_
  refine AllReadyH.cons rfl (fun K hK => ?_) AllReadyH.nil
  rw [if_pos (by rfl)]
  go_simp
  refine (HC.out w1.drew (bl_drew HB1.out)).mono ?_
  rintro e w2 ⟨rfl, F', c2, c3, c4⟩
  have HX2 : Hid (w2.heap[xb]? = some (tabBox nm ca N cc key ia M ic)) := by
    refine (c3.block xb (lt_of H1.out.1) (fun q => ?_)).trans H1.out.1
    have := HF.out.2.2 xb q
    have := H1.out.2.2.1
    omega
  have HD2 : Hid (w2.heap[d]? = some (.cells #[.pointer (some ⟨c, 0, none⟩), .map (some m)] 57 (0, 0))) := (c3.block d (lt_of H1.out.2.1) (fun q => (HF.out.2.1 d q).2.1 rfl)).trans H1.out.2.1
  have HC2 : Hid (CatI c [(kb T.nm, T)] w2 F') := by have := c2; rw [HOne.out.2] at this; exact this
  have hs12 : w1.heap.size ≤ w2.heap.size := c3.size
  have HT2 : Hid (Turn F w w2) := (Turn.ofBelow F (bl_drew HB1.out)).trans c3
  clear c2 c3 c4
  dsimp only
  refine hK.out _ _ ⟨(HDs.out w2 HD2.out).1, HXs.out w2 HX2.out⟩ (fun hS2 => ?_)
  clear hK
  try simp only [List.setIfInBounds_toArray, List.set_cons_zero, List.set_cons_succ]
  refine take_dst (i := 6) (dst := 5) (v := ?v5a) rfl rfl (by kernel_rfl) (by kernel_rfl) (by kernel_rfl) (fun _ _ _ h => h) (Or.inl ⟨by rfl, ?hy5a⟩) (by assumption) ?rest5a
  case hy5a => intro w hSw; (try dsimp only at hSw); go_simp; try with_reducible rfl
  try simp only [List.setIfInBounds_toArray, List.set_cons_zero, List.set_cons_succ]
  refine wpAnyH_done (by kernel_rfl) ?_ _
  clear hS2 hHeld HC
  obtain ⟨p0, p1, p2, p3⟩ := HXs.out w2 HX2.out
  obtain ⟨q0, q1, q2⟩ := HDs.out w2 HD2.out
  go_upto_region 4 with fail
  have HFd : Hid (∀ u, Below w2.heap.size w2 u → Calls Tryz.prog 14 #[.pointer (some ⟨c, 0, none⟩), .string nm] u fun e w' => ∃ a b k a' b' k', e = .returned (.tuple #[.agg #[.string nm, .slice a b k, .int .i64 key, .slice a' b' k'], .int .i64 0]) ∧ Hid (∃ X, Below u.heap.size u w' ∧ TabO w' 0 (.slice a b k) (.slice a' b' k') X T)) := fun u hu => by
    have hk : CatI c [(kb T.nm, T)] u F' := by
      obtain ⟨m, G, hG, hL, hF⟩ := HC2.out
      exact ⟨m, G, hG.kept fun i hi => hu.block i (hG.lt hi), hL, hF⟩
    have := find_some c [(kb T.nm, T)] T.nm T u F' HNm.out.2.2 hk (by simp [Dk.getL])
    rw [HNm.out.1, HNm.out.2.1] at this
    refine this.mono fun e w' ⟨a, b, k, a', b', k', e1, e2⟩ => ⟨a, b, k, a', b', k', e1, ?_⟩
    obtain ⟨X, x1, x2⟩ := e2.out
    exact ⟨X, x1, x2.low (Nat.zero_le _)⟩
  have HFin : Hid (∀ (U : World) (p : Nat) (a : Option Addr) (b k : Nat) (a' : Option Addr) (b' k' : Nat) (X : List Iv), Below w2.heap.size w2 U → U.heap[p]? = some tabZ → w2.heap.size ≤ p → TabO U 0 (.slice a b k) (.slice a' b' k') X T → Own4 w2 nm key T (set4 U p (.string nm) (.slice a b k) (.int .i64 key) (.slice a' b' k')) p a b k a' b' k') := fun U p a b k a' b' k' X u1 u2 u3 u4 => own4_fin u1 u2 u3 u4
  have HZ : Hid (∀ (U : World) (p : Nat), U.heap[p]? = some tabZ → (U.cell? ⟨p, 0, none⟩ = some (.string ⟨#[]⟩) ∧ U.cell? ⟨p, 1, none⟩ = some (.slice none 0 0) ∧ U.cell? ⟨p, 2, none⟩ = some (.int .i64 0) ∧ U.cell? ⟨p, 3, none⟩ = some (.slice none 0 0)) ∧ U.frozen? ⟨p, 0, none⟩ = false ∧ U.frozen? ⟨p, 1, none⟩ = false ∧ U.frozen? ⟨p, 2, none⟩ = false ∧ U.frozen? ⟨p, 3, none⟩ = false ∧ p < U.heap.size) := fun U p hu => ⟨⟨by rw [cell_of hu]; rfl, by rw [cell_of hu]; rfl, by rw [cell_of hu]; rfl, by rw [cell_of hu]; rfl⟩, frozen_of hu 0, frozen_of hu 1, frozen_of hu 2, frozen_of hu 3, lt_of hu⟩
  have HS2 : Hid (∀ u, Below w2.heap.size w2 u → u.cell? ⟨d, 0, none⟩ = some (.pointer (some ⟨c, 0, none⟩)) ∧ u.cell? ⟨xb, 0, none⟩ = some (.string nm)) := fun u hu => ⟨(HDs.out u ((hu.block d (lt_of HD2.out)).trans HD2.out)).1, (HXs.out u ((hu.block xb (lt_of HX2.out)).trans HX2.out)).1⟩
  apply by_key8 (C := fun W p a b k a' b' k' => Own4 w2 nm key T W p a b k a' b' k')
  · intro HKey
    refine wp_region_held_drew (S := fun u => u.cell? ⟨d, 0, none⟩ = some (.pointer (some ⟨c, 0, none⟩)) ∧ u.cell? ⟨xb, 0, none⟩ = some (.string nm)) (by kernel_rfl) (HS2.out _ (bl_drew (Below.refl _ w2))) (fun hHeld => ?_)
    refine take_dst (i := 0) (dst := 18) (v := ?v18b) rfl rfl (by kernel_rfl) (by kernel_rfl) (by kernel_rfl) (fun _ _ _ h => h) (Or.inl ⟨by rfl, ?hy18b⟩) (by assumption) ?rest18b
    case hy18b => intro w hSw; (try dsimp only at hSw); go_simp; try with_reducible rfl
    try simp only [List.setIfInBounds_toArray, List.set_cons_zero, List.set_cons_succ]
    refine take_dst (i := 1) (dst := 19) (v := ?v19b) rfl rfl (by kernel_rfl) (by kernel_rfl) (by kernel_rfl) (fun _ _ _ h => h) (Or.inl ⟨by rfl, ?hy19b⟩) (by assumption) ?rest19b
    case hy19b => intro w hSw; (try dsimp only at hSw); go_simp; try with_reducible rfl
    try simp only [List.setIfInBounds_toArray, List.set_cons_zero, List.set_cons_succ]
    refine take_dst (i := 2) (dst := 20) (v := ?v20b) rfl rfl (by kernel_rfl) (by kernel_rfl) (by kernel_rfl) (fun _ _ _ h => h) (Or.inl ⟨by rfl, ?hy20b⟩) (by assumption) ?rest20b
    case hy20b => intro w hSw; (try dsimp only at hSw); go_simp; try with_reducible rfl
    try simp only [List.setIfInBounds_toArray, List.set_cons_zero, List.set_cons_succ]
    refine take_dst (i := 3) (dst := 21) (v := ?v21b) rfl rfl (by kernel_rfl) (by kernel_rfl) (by kernel_rfl) (fun _ _ _ h => h) (Or.inl ⟨by rfl, ?hy21b⟩) (by assumption) ?rest21b
    case hy21b => intro w hSw; (try dsimp only at hSw); go_simp; try with_reducible rfl
    try simp only [List.setIfInBounds_toArray, List.set_cons_zero, List.set_cons_succ]
    refine take_dst (i := 4) (dst := 22) (v := ?v22b) rfl rfl (by kernel_rfl) (by kernel_rfl) (by kernel_rfl) (fun _ _ _ h => h) (Or.inl ⟨by rfl, ?hy22b⟩) (by assumption) ?rest22b
    case hy22b => intro w hSw; (try dsimp only at hSw); go_simp; try with_reducible rfl
    try simp only [List.setIfInBounds_toArray, List.set_cons_zero, List.set_cons_succ]
    refine take_dst (i := 5) (dst := 23) (v := ?v23b) rfl rfl (by kernel_rfl) (by kernel_rfl) (by kernel_rfl) (fun _ _ _ h => h) (Or.inl ⟨by rfl, ?hy23b⟩) (by assumption) ?rest23b
    case hy23b => intro w hSw; (try dsimp only at hSw); go_simp; try with_reducible rfl
    try simp only [List.setIfInBounds_toArray, List.set_cons_zero, List.set_cons_succ]
    refine wpAnyH_ready (rs := [6, 10]) (by kernel_rfl) (by simp) ?_
    refine AllReadyH.cons rfl (fun K hK => ?_) ?_
    · rw [if_pos (by rfl)]
      go_simp
      refine (HFd.out w2.drew (bl_drew (Below.refl _ w2))).mono ?_
      rintro e w3 ⟨a, b, k, a', b', k', rfl, HT3⟩
      obtain ⟨X3, HT3b, HT3c⟩ := HT3.out
      have HB3 : Hid (Below w2.heap.size w2 w3) := (bl_drew (Below.refl _ w2)).trans HT3b
      clear HT3b
      dsimp only
      refine hK.out _ _ (HS2.out _ HB3.out) (fun hS3 => ?_)
      clear hK
      try simp only [List.setIfInBounds_toArray, List.set_cons_zero, List.set_cons_succ]
      refine take_dst (i := 7) (dst := 17) (v := ?v17b) rfl rfl (by kernel_rfl) (by kernel_rfl) (by kernel_rfl) (fun _ _ _ h => h) (Or.inl ⟨by rfl, ?hy17b⟩) (by assumption) ?rest17b
      case hy17b => intro w hSw; (try dsimp only at hSw); go_simp; try with_reducible rfl
      try simp only [List.setIfInBounds_toArray, List.set_cons_zero, List.set_cons_succ]
      refine take_dst (i := 8) (dst := 25) (v := ?v25b) rfl rfl (by kernel_rfl) (by kernel_rfl) (by kernel_rfl) (fun _ _ _ h => h) (Or.inl ⟨by rfl, ?hy25b⟩) (by assumption) ?rest25b
      case hy25b => intro w hSw; (try dsimp only at hSw); go_simp; try with_reducible rfl
      try simp only [List.setIfInBounds_toArray, List.set_cons_zero, List.set_cons_succ]
      refine take_dst (i := 9) (dst := 26) (v := ?v26b) rfl rfl (by kernel_rfl) (by kernel_rfl) (by kernel_rfl) (fun _ _ _ h => h) (Or.inl ⟨by rfl, ?hy26b⟩) (by assumption) ?rest26b
      case hy26b => intro w hSw; (try dsimp only at hSw); go_simp; try with_reducible rfl
      try simp only [List.setIfInBounds_toArray, List.set_cons_zero, List.set_cons_succ]
      refine wpAnyH_ready (rs := [10]) (by kernel_rfl) (by simp) ?_
      refine AllReadyH.cons rfl (fun K hK => ?_) AllReadyH.nil
      rw [if_pos (by rfl)]
      go_simp
      obtain ⟨U, hU⟩ : ∃ U, w3.alloc tabZ = U := ⟨_, rfl⟩
      obtain ⟨p, hp⟩ : ∃ p, w3.heap.size = p := ⟨_, rfl⟩
      have u1 : Below w3.heap.size w3 U := by rw [← hU]; exact (Below.refl _ _).alloc (Nat.le_refl _) _
      have u2 : U.heap[p]? = some tabZ := by rw [← hU, ← hp]; exact heap_new w3 _
      have u3 : Below w2.heap.size w2 U := HB3.out.trans (u1.mono HB3.out.size)
      have u4 : TabO U 0 (.slice a b k) (.slice a' b' k') X3 T := HT3c.below15 u1
      have HU : Hid (Own4 w2 nm key T (set4 U p (.string nm) (.slice a b k) (.int .i64 key) (.slice a' b' k')) p a b k a' b' k') := HFin.out U p a b k a' b' k' X3 u3 u2 (by rw [← hp]; exact HB3.out.size) u4
      refine hK.out _ _ (by rw [hU]; exact HS2.out _ u3) (fun hS4 => ?_)
      clear hK
      try simp only [List.setIfInBounds_toArray, List.set_cons_zero, List.set_cons_succ]
      rw [hU, hp]
      rw [hU] at hS4
      obtain ⟨⟨z0, z1, z2, z3⟩, y0, y1, y2, y3, y4⟩ := HZ.out U p u2
      clear hU hp u1 u2 u3 u4 HT3c
      refine wpAnyH_ready (rs := [11]) (by kernel_rfl) (by simp) ?_
      refine AllReadyH.cons rfl (fun K hK => ?_) AllReadyH.nil
      rw [if_pos (by rfl)]
      go_simp
      obtain ⟨W, hW⟩ : ∃ W, set4 U p (.string nm) (.slice a b k) (.int .i64 key) (.slice a' b' k') = W := ⟨_, rfl⟩
      rw [hW] at HU
      unfold set4 at hW
      refine hK.out _ _ (by rw [hW]; exact HS2.out _ HU.out.1) (fun hS5 => ?_)
      clear hK
      try simp only [List.setIfInBounds_toArray, List.set_cons_zero, List.set_cons_succ]
      rw [hW]
      rw [hW] at hS5
      clear hW z0 z1 z2 z3 y0 y1 y2 y3 y4
      refine take_dst (i := 12) (dst := 7) (v := ?v7b) rfl rfl (by kernel_rfl) (by kernel_rfl) (by kernel_rfl) (fun _ _ _ h => h) (Or.inl ⟨by rfl, ?hy7b⟩) (by assumption) ?rest7b
      case hy7b => intro w hSw; (try dsimp only at hSw); go_simp; try with_reducible rfl
      try simp only [List.setIfInBounds_toArray, List.set_cons_zero, List.set_cons_succ]
      refine wpAnyH_done (by kernel_rfl) ?_ _
      exact HKey.out W p a b k a' b' k' HU.out
    · refine AllReadyH.cons rfl (fun K hK => ?_) AllReadyH.nil
      rw [if_pos (by rfl)]
      go_simp
      obtain ⟨U0, hU0⟩ : ∃ U, (w2.alloc tabZ).drew = U := ⟨_, rfl⟩
      obtain ⟨p, hp⟩ : ∃ p, w2.heap.size = p := ⟨_, rfl⟩
      have v1 : Below w2.heap.size w2 U0 := by rw [← hU0]; exact bl_drew (bl_alloc (Below.refl _ w2) _)
      have v2 : U0.heap[p]? = some tabZ := by rw [← hU0, ← hp]; exact heap_new w2 _
      refine hK.out _ _ (by first | (rw [hU0]; exact HS2.out _ v1) | exact HS2.out _ (bl_drew (bl_alloc (Below.refl _ w2) _)) | exact HS2.out _ (bl_alloc (bl_drew (Below.refl _ w2)) _)) (fun hS3 => ?_)
      clear hK
      try simp only [List.setIfInBounds_toArray, List.set_cons_zero, List.set_cons_succ]
      rw [hU0, hp]
      rw [hU0] at hS3
      have HV : Hid (Below w2.heap.size w2 U0 ∧ U0.heap[p]? = some tabZ ∧ w2.heap.size = p) := ⟨v1, v2, hp⟩
      clear hU0 hp v1 v2
      refine wpAnyH_ready (rs := [6]) (by kernel_rfl) (by simp) ?_
      refine AllReadyH.cons rfl (fun K hK => ?_) AllReadyH.nil
      rw [if_pos (by rfl)]
      go_simp
      refine (HFd.out U0 HV.out.1).mono ?_
      rintro e U ⟨a, b, k, a', b', k', rfl, HT3⟩
      obtain ⟨X3, HT3b, HT3c⟩ := HT3.out
      have u3 : Below w2.heap.size w2 U := HV.out.1.trans (HT3b.mono HV.out.1.size)
      have u2 : U.heap[p]? = some tabZ := (HT3b.block p (lt_of HV.out.2.1)).trans HV.out.2.1
      have HU : Hid (Own4 w2 nm key T (set4 U p (.string nm) (.slice a b k) (.int .i64 key) (.slice a' b' k')) p a b k a' b' k') := HFin.out U p a b k a' b' k' X3 u3 u2 (by rw [HV.out.2.2]; exact Nat.le_refl _) HT3c
      obtain ⟨⟨z0, z1, z2, z3⟩, y0, y1, y2, y3, y4⟩ := HZ.out U p u2
      have hS4 := HS2.out _ u3
      clear HT3b HT3c u2 u3
      dsimp only
      refine hK.out _ _ hS4 (fun hS4' => ?_)
      clear hK
      try simp only [List.setIfInBounds_toArray, List.set_cons_zero, List.set_cons_succ]
      refine take_dst (i := 7) (dst := 17) (v := ?v17c) rfl rfl (by kernel_rfl) (by kernel_rfl) (by kernel_rfl) (fun _ _ _ h => h) (Or.inl ⟨by rfl, ?hy17c⟩) (by assumption) ?rest17c
      case hy17c => intro w hSw; (try dsimp only at hSw); go_simp; try with_reducible rfl
      try simp only [List.setIfInBounds_toArray, List.set_cons_zero, List.set_cons_succ]
      refine take_dst (i := 8) (dst := 25) (v := ?v25c) rfl rfl (by kernel_rfl) (by kernel_rfl) (by kernel_rfl) (fun _ _ _ h => h) (Or.inl ⟨by rfl, ?hy25c⟩) (by assumption) ?rest25c
      case hy25c => intro w hSw; (try dsimp only at hSw); go_simp; try with_reducible rfl
      try simp only [List.setIfInBounds_toArray, List.set_cons_zero, List.set_cons_succ]
      refine take_dst (i := 9) (dst := 26) (v := ?v26c) rfl rfl (by kernel_rfl) (by kernel_rfl) (by kernel_rfl) (fun _ _ _ h => h) (Or.inl ⟨by rfl, ?hy26c⟩) (by assumption) ?rest26c
      case hy26c => intro w hSw; (try dsimp only at hSw); go_simp; try with_reducible rfl
      try simp only [List.setIfInBounds_toArray, List.set_cons_zero, List.set_cons_succ]
      refine wpAnyH_ready (rs := [11]) (by kernel_rfl) (by simp) ?_
      refine AllReadyH.cons rfl (fun K hK => ?_) AllReadyH.nil
      rw [if_pos (by rfl)]
      go_simp
      obtain ⟨W, hW⟩ : ∃ W, set4 U p (.string nm) (.slice a b k) (.int .i64 key) (.slice a' b' k') = W := ⟨_, rfl⟩
      rw [hW] at HU
      unfold set4 at hW
      refine hK.out _ _ (by rw [hW]; exact HS2.out _ HU.out.1) (fun hS5 => ?_)
      clear hK
      try simp only [List.setIfInBounds_toArray, List.set_cons_zero, List.set_cons_succ]
      rw [hW]
      rw [hW] at hS5
      clear hW z0 z1 z2 z3 y0 y1 y2 y3 y4
      refine take_dst (i := 12) (dst := 7) (v := ?v7c) rfl rfl (by kernel_rfl) (by kernel_rfl) (by kernel_rfl) (fun _ _ _ h => h) (Or.inl ⟨by rfl, ?hy7c⟩) (by assumption) ?rest7c
      case hy7c => intro w hSw; (try dsimp only at hSw); go_simp; try with_reducible rfl
      try simp only [List.setIfInBounds_toArray, List.set_cons_zero, List.set_cons_succ]
      refine wpAnyH_done (by kernel_rfl) ?_ _
      exact HKey.out W p a b k a' b' k' HU.out
  intro W p a b k a' b' k' hO
  obtain ⟨o1, o2, X4, o3⟩ := hO
  have HO : Hid (Below w2.heap.size w2 W ∧ TabO W 0 (.slice a b k) (.slice a' b' k') X4 T) := ⟨o1, o3⟩
  have HS5 : Hid (∀ u, Below W.heap.size W u → u.heap[d]? = some (.cells #[.pointer (some ⟨c, 0, none⟩), .map (some m)] 57 (0, 0)) ∧ u.cell? ⟨d, 1, none⟩ = some (.map (some m)) ∧ u.cell? ⟨p, 0, none⟩ = some (.string nm) ∧ u.cell? ⟨p, 1, none⟩ = some (.slice a b k) ∧ u.cell? ⟨p, 2, none⟩ = some (.int .i64 key) ∧ u.cell? ⟨p, 3, none⟩ = some (.slice a' b' k')) := fun u hu => by
    have e1 := ((o1.trans (hu.mono o1.size)).block d (lt_of HD2.out)).trans HD2.out
    exact ⟨e1, (HDs.out u e1).2.1, box_cells15 ((hu.block p (lt_of o2)).trans o2)⟩
  have hdl : d < W.heap.size := lt_of (HS5.out W (Below.refl _ _)).1
  obtain ⟨-, s1, s2, s3, s4, s5⟩ := HS5.out W (Below.refl _ _)
  have hpl : p < W.heap.size := lt_of o2
  clear o1 o2 o3 HFd HFin HZ HS2 p0 p1 p2 p3 q0 q1 q2
  go_upto_region 5 with fail
  refine wp_region_held_drew (S := fun u => u.cell? ⟨d, 1, none⟩ = some (.map (some m)) ∧ u.cell? ⟨p, 0, none⟩ = some (.string nm) ∧ u.cell? ⟨p, 1, none⟩ = some (.slice a b k) ∧ u.cell? ⟨p, 2, none⟩ = some (.int .i64 key) ∧ u.cell? ⟨p, 3, none⟩ = some (.slice a' b' k')) (by kernel_rfl) (HS5.out W.drew (bl_drew (Below.refl _ W))).2 (fun hHeld => ?_)
  refine take_dst (i := 0) (dst := 27) (v := ?v27d) rfl rfl (by kernel_rfl) (by kernel_rfl) (by kernel_rfl) (fun _ _ _ h => h) (Or.inl ⟨by rfl, ?hy27d⟩) (by assumption) ?rest27d
  case hy27d => intro w hSw; (try dsimp only at hSw); go_simp; try with_reducible rfl
  try simp only [List.setIfInBounds_toArray, List.set_cons_zero, List.set_cons_succ]
  refine take_dst (i := 1) (dst := 28) (v := ?v28d) rfl rfl (by kernel_rfl) (by kernel_rfl) (by kernel_rfl) (fun _ _ _ h => h) (Or.inl ⟨by rfl, ?hy28d⟩) (by assumption) ?rest28d
  case hy28d => intro w hSw; (try dsimp only at hSw); go_simp; try with_reducible rfl
  try simp only [List.setIfInBounds_toArray, List.set_cons_zero, List.set_cons_succ]
  refine take_dst (i := 2) (dst := 29) (v := ?v29d) rfl rfl (by kernel_rfl) (by kernel_rfl) (by kernel_rfl) (fun _ _ _ h => h) (Or.inl ⟨by rfl, ?hy29d⟩) (by assumption) ?rest29d
  case hy29d => intro w hSw; (try dsimp only at hSw); go_simp; try with_reducible rfl
  try simp only [List.setIfInBounds_toArray, List.set_cons_zero, List.set_cons_succ]
  refine take_dst (i := 3) (dst := 30) (v := ?v30d) rfl rfl (by kernel_rfl) (by kernel_rfl) (by kernel_rfl) (fun _ _ _ h => h) (Or.inl ⟨by rfl, ?hy30d⟩) (by assumption) ?rest30d
  case hy30d => intro w hSw; (try dsimp only at hSw); go_simp; try with_reducible rfl
  try simp only [List.setIfInBounds_toArray, List.set_cons_zero, List.set_cons_succ]
  refine take_dst (i := 4) (dst := 31) (v := ?v31d) rfl rfl (by kernel_rfl) (by kernel_rfl) (by kernel_rfl) (fun _ _ _ h => h) (Or.inl ⟨by rfl, ?hy31d⟩) (by assumption) ?rest31d
  case hy31d => intro w hSw; (try dsimp only at hSw); go_simp; try with_reducible rfl
  try simp only [List.setIfInBounds_toArray, List.set_cons_zero, List.set_cons_succ]
  refine take_dst (i := 5) (dst := 32) (v := ?v32d) rfl rfl (by kernel_rfl) (by kernel_rfl) (by kernel_rfl) (fun _ _ _ h => h) (Or.inl ⟨by rfl, ?hy32d⟩) (by assumption) ?rest32d
  case hy32d => intro w hSw; (try dsimp only at hSw); go_simp; try with_reducible rfl
  try simp only [List.setIfInBounds_toArray, List.set_cons_zero, List.set_cons_succ]
  refine take_dst (i := 6) (dst := 33) (v := ?v33d) rfl rfl (by kernel_rfl) (by kernel_rfl) (by kernel_rfl) (fun _ _ _ h => h) (Or.inl ⟨by rfl, ?hy33d⟩) (by assumption) ?rest33d
  case hy33d => intro w hSw; (try dsimp only at hSw); go_simp; try with_reducible rfl
  try simp only [List.setIfInBounds_toArray, List.set_cons_zero, List.set_cons_succ]
  refine wpAnyH_ready (rs := [7]) (by kernel_rfl) (by simp) ?_
  refine AllReadyH.cons rfl (fun K hK => ?_) AllReadyH.nil
  rw [if_pos (by rfl)]
  go_simp
  refine (HNew.out W.drew a b k a' b' k' X4 (HO.out.2.below15 (bl_drew (Below.refl _ W)))).mono ?_
  rintro e w5 ⟨tb, S, rfl, n1, n2⟩
  have HN5 : Hid (NewT T W.drew w5 tb S ∧ Px S) := ⟨n1, n2⟩
  have HB5 : Hid (Below W.heap.size W w5) := (bl_drew (Below.refl _ W)).trans n1.below
  clear n1 n2
  dsimp only
  refine hK.out _ _ (HS5.out w5 HB5.out).2 (fun hS6 => ?_)
  clear hK
  try simp only [List.setIfInBounds_toArray, List.set_cons_zero, List.set_cons_succ]
  have HM5 : Hid (w5.ownsMap Tryz.prog 9 heldR m 0 (Dk.toD tokP []) ∧ m < w5.heap.size) := by
    obtain ⟨es, clock, hb, _⟩ := id HD.out.map
    have e1 : w5.heap[m]? = w.heap[m]? := by
      have hm2 := HT2.out.block m (lt_of hb) (fun q => (HF.out.2.1 m q).2.2 rfl)
      rw [← hm2]
      have hl2 : m < w2.heap.size := Nat.lt_of_lt_of_le (lt_of hb) HT2.out.size
      exact (HO.out.1.trans (HB5.out.mono HO.out.1.size)).block m hl2
    exact ⟨ownsMap_block HD.out.map e1, lt_of (e1.trans hb)⟩
  obtain ⟨w6, r6, m6, t6⟩ := map_one (tb := tb) (nm := nm) HM5.out.1 (by rw [← HNm.out.1]; exact HNm.out.2.2)
  have HE6 : Hid (MapD w6 m tb nm ∧ Turn (fun i => i = m) w5 w6) := ⟨m6, t6⟩
  have HS6 : Hid (w6.heap[d]? = some (.cells #[.pointer (some ⟨c, 0, none⟩), .map (some m)] 57 (0, 0)) ∧ w6.cell? ⟨d, 1, none⟩ = some (.map (some m)) ∧ w6.cell? ⟨p, 0, none⟩ = some (.string nm) ∧ w6.cell? ⟨p, 1, none⟩ = some (.slice a b k) ∧ w6.cell? ⟨p, 2, none⟩ = some (.int .i64 key) ∧ w6.cell? ⟨p, 3, none⟩ = some (.slice a' b' k')) := by
    obtain ⟨es, clock, hb, _⟩ := id HM5.out.1
    have kc : ∀ {x : Nat} {o : Nat} {v : Value}, w5.cell? ⟨x, o, none⟩ = some v → x ≠ m → w6.cell? ⟨x, o, none⟩ = some v := fun hv hx => by
      have e := t6.block _ (cell_lt hv) hx
      simp only [World.cell?] at hv ⊢
      rw [e]
      exact hv
    have hpm : p ≠ m := fun e => by
      have := (HS5.out w5 HB5.out).2.2.1
      rw [e] at this
      simp only [World.cell?] at this
      rw [hb] at this
      simp at this
    obtain ⟨g0, g1, g2, g3, g4, g5⟩ := HS5.out w5 HB5.out
    have hdm : d ≠ m := HD.out.lo.2.2
    exact ⟨(t6.block d (lt_of g0) hdm).trans g0, kc g1 hdm, kc g2 hpm, kc g3 hpm, kc g4 hpm, kc g5 hpm⟩
  clear m6 t6
  refine wpAnyH_ready (rs := [8]) (by kernel_rfl) (by simp) ?_
  refine AllReadyH.cons rfl (fun K hK => ?_) AllReadyH.nil
  rw [if_pos (by rfl)]
  go_simp
  refine hK.out _ _ HS6.out.2 (fun hS7 => ?_)
  clear hK
  refine wpAnyH_done (by kernel_rfl) ?_ _
  go_wp2_with fail
  go_ret
  refine ⟨rfl, tb, S, ⟨⟨c, HS6.out.1⟩, ?_, ?_, ?_⟩, HN5.out.1.T, HN5.out.1.kcols, HN5.out.1.R, HN5.out.2, fun i hi => ?_, ?_⟩
  · rw [HN5.out.1.T, HNm.out.1]
    exact HE6.out.1
  · obtain ⟨es, clock, hb, _⟩ := id HM5.out.1
    exact HN5.out.1.tab.keptN HE6.out.2 (fun i hi c t z e => by
      have hi' : i = m := hi
      rw [hi', hb] at e
      cases e)
  · rw [HN5.out.1.T]
    exact HNm.out.2.2
  · have h1 := HN5.out.1.new i hi
    have h2 : W.heap.size ≤ i := h1
    have h3 := HO.out.1.size
    have h4 := HT2.out.size
    omega
  · have hl := HD.out.lo
    have hh := HD.out.hi
    have h5 : Below w2.heap.size w2 w5 := HO.out.1.trans (HB5.out.mono HO.out.1.size)
    refine ((HT2.out.mono fun i hi => (HF.out.2.1 i hi).1).trans (Turn.ofBelow _ h5)).trans (HE6.out.2.mono fun i hi => ?_)
    rw [hi]
    obtain ⟨es, clock, hb, _⟩ := HD.out.map
    exact ⟨hl.2.1, hh.2.1, fun c t z e => by rw [hb] at e; cases e⟩

end Go.Proofs.YtfddmibaojfalaaGreat
