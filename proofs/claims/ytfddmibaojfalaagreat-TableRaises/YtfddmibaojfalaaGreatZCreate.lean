/- The program's New and Create. -/
import Derived.Test.YtfddmibaojfalaaGreatZCat
namespace Go.Proofs.YtfddmibaojfalaaGreat
open Go.RowKit Go.Maps

abbrev zeroTab : Value := .agg #[.string ⟨#[]⟩, .slice none 0 0, .int .i64 0, .slice none 0 0]
theorem zeroT (w : World) : (zeroValue 29).run Tryz.prog w = .ok zeroTab w := by kernel_rfl
theorem keyOfS {k : ByteArray} (hk : k.size ≤ maxLen) : keyOf Tryz.prog 9 (.string k) = some (.string (kb k)) := WideMaps.keyOf_string_mk Tryz.underlying9 hk

section
variable {w w' : World} {c m : Nat} {G : List (List UInt8 × Ge)}
theorem CatG.look (h : CatG w c m G) (k : ByteArray) (hk : k.size ≤ maxLen) :
    (∃ g, Dk.getL (kb k) G = some g ∧ (Instr.lookup 82 (.map (some m)) (.string k) true).run Tryz.prog w = .ok (.tuple #[g.val, .bool true]) w) ∨
    (Dk.getL (kb k) G = none ∧ (Instr.lookup 82 (.map (some m)) (.string k) true).run Tryz.prog w = .ok (.tuple #[zeroTab, .bool false]) w) := by
  obtain ⟨v, ps, hrun, hv⟩ := h.map.look_ok keyed Tryz.underlying82 (zeroT w) (zd := .held zeroTab) (zp := []) rfl (keyOfS hk)
  rw [Dk.toD_has] at hrun
  rw [Dk.toD_at] at hv
  unfold heldR at hv
  simp only [Option.some.injEq, Prod.mk.injEq] at hv
  cases hg : Dk.getL (kb k) G with
  | some g =>
    rw [hg] at hrun hv
    have : v = g.val := by have := hv.1; unfold tok at this; simpa using this
    rw [this] at hrun
    exact Or.inl ⟨g, rfl, hrun⟩
  | none =>
    rw [hg] at hrun hv
    have : v = zeroTab := by simpa using hv.1
    rw [this] at hrun
    exact Or.inr ⟨rfl, hrun⟩

theorem TabO.ne_map {base : Nat} {g : Ge} (ht : TabO w base g.cv g.iv g.X g.T) {es : Array MapEntry} {clock : Nat} (hb : w.heap[m]? = some (.map es clock)) {i : Nat} (hi : g.foot i) : i ≠ m := fun e => by
  have key : ∀ {t : TypeId} {size n : Nat} {v : Value} {xs : List Value}, w.ownsRow base t size v n xs → v.ownBlock = some i → False := fun hr hv => by
    obtain ⟨cur, hc, _⟩ := ownsRow_own hr hv
    rw [e, hb] at hc
    simp at hc
  rcases hi with hi | hi | ⟨x, hx, hi⟩
  · exact key ht.co hi
  · exact key ht.ix hi
  · exact key (ht.nums x hx) hi

theorem CatG.put (h : CatG w c m G) (g : Ge) (hn : Dk.getL (kb g.T.nm) G = none) (hl : G.length < 4096) (ht : TabO w 0 g.cv g.iv g.X g.T) (hm : MayT g.T) :
    ∃ w', (Instr.mapUpdate 82 (.map (some m)) (.string g.T.nm) g.val).run Tryz.prog w = .ok () w' ∧ CatG w' c m (Dk.putL (kb g.T.nm) g G) ∧ Turn (fun i => i = m) w w' := by
  have hs := (nameOk_size hm.nm).2
  obtain ⟨w', hrun, k1, k2⟩ := h.map.store keyed Tryz.underlying82 (by unfold maxLen; omega) (keyOfS (k := g.T.nm) (by unfold maxLen; omega)) (val := g.val) (d := tok g) (ps := []) rfl
  have tt := turn_of_map k2
  obtain ⟨es, clock, hb, _⟩ := id h.map
  have hlen : (Dk.putL (kb g.T.nm) g G).length = G.length + 1 := by
    unfold Dk.putL
    rw [Dk.length_insL, Dk.delL_other (Dk.getL_none hn)]
  refine ⟨w', hrun, ⟨(tt.block c (lt_of h.top) (Ne.symm h.ne)).trans h.top, ?_, fun p hp => ?_, by omega⟩, tt⟩
  · have := ownsMap_exact k1
    rw [Dk.toD_put, Dk.toD_size] at this
    exact this
  · unfold Dk.putL at hp
    rcases Dk.mem_insL.1 hp with rfl | hp
    · exact ⟨ht.block fun i hi => tt.block i (ht.lt hi).2 (ht.ne_map hb hi), rfl, hm⟩
    · have hp := (Dk.mem_delL.1 hp).1
      exact ⟨(h.tabs p hp).1.block fun i hi => tt.block i ((h.tabs p hp).1.lt hi).2 (h.tab_ne hp hi), (h.tabs p hp).2⟩
end

/-! ### what the calls come to -/
def crE (L : Cat) (T : Tab) : Int := if T.may then (if (Dk.getL (kb T.nm) L).isSome then 6 else if 4096 ≤ L.length then 2 else 0) else 140
def crL (L : Cat) (T : Tab) : Cat := if crE L T = 0 then Dk.putL (kb T.nm) T L else L

set_option maxHeartbeats 400000 in
theorem new_any (w : World) : Calls Tryz.prog 12 #[] w fun e w' => ∃ c, e = .returned (.pointer (some ⟨c, 0, none⟩)) ∧ Hid (∃ F, CatI c [] w' F ∧ (∀ i, F i → w.heap.size ≤ i) ∧ Below w.heap.size w w') := by
  have hmm := @run_makeMap Tryz.prog
  go_enter Tryz.func12, Tryz.ntmps12
  go_wp2
  go_ret
  refine ⟨_, rfl, ?_⟩
  show ∃ _, _
  have b1 : Below w.heap.size w (w.alloc (.map #[] 0)) := (Below.refl _ _).alloc (Nat.le_refl _) _
  refine ⟨catFoot (w.heap.size + 1) w.heap.size [], ⟨w.heap.size, [], ⟨?_, ?_, (fun _ h => by cases h), by decide⟩, rfl, fun _ => Iff.rfl⟩, fun i hi => ?_, b1.alloc (by simp) _⟩
  · have := heap_new (w.alloc (.map #[] 0)) (.cells #[.map (some w.heap.size)] 84)
    simpa using this
  · have h1 : (w.alloc (.map #[] 0)).ownsMap Tryz.prog 9 heldR w.heap.size 0 (.map []) := World.ownsMap_made w _ _ _
    exact ownsMap_block h1 (Below.heap_alloc _ _ _ (by simp))
  · rcases hi with rfl | rfl | ⟨p, hp, _⟩
    · omega
    · omega
    · cases hp

theorem bl_alloc {w u : World} (h : Below w.heap.size w u) (o : Obj) : Below w.heap.size w (u.alloc o) := h.alloc h.size o
theorem bl_drew {w u : World} (h : Below w.heap.size w u) : Below w.heap.size w u.drew := h.trans ((below_drewN u 1).mono h.size)

/-- what Create answers -/
def CreR (c : Nat) (L : Cat) (T : Tab) (w : World) (F : Nat → Prop) (e : Ending) (w' : World) : Prop := e = .returned (.int .i64 (crE L T)) ∧ Goes (CatI c (crL L T)) w w' F

theorem TabO.shape {w : World} {base : Nat} {cv iv : Value} {X : List Iv} {T : Tab} (h : TabO w base cv iv X T) : (∃ a n c, cv = .slice a n c) ∧ ∃ a n c, iv = .slice a n c := by
  obtain ⟨h1, Y, h2, _⟩ := h.tabV
  obtain ⟨a, c, e, _⟩ := h1
  obtain ⟨a', c', e', _⟩ := h2
  exact ⟨⟨a, _, c, e⟩, a', _, c', e'⟩

abbrev u5c (u : World) (c m ob : Nat) (nm : ByteArray) (a1 : Option Addr) (n1 c1 : Nat) (key : Int) (a2 : Option Addr) (n2 c2 : Nat) : Prop := u.cell? ⟨c, 0, none⟩ = some (.map (some m)) ∧ u.cell? ⟨ob, 0, none⟩ = some (.string nm) ∧ u.cell? ⟨ob, 1, none⟩ = some (.slice a1 n1 c1) ∧ u.cell? ⟨ob, 2, none⟩ = some (.int .i64 key) ∧ u.cell? ⟨ob, 3, none⟩ = some (.slice a2 n2 c2)

set_option maxRecDepth 100000 in
set_option maxHeartbeats 4000000 in
theorem create_any (c : Nat) (L : Cat) (cv iv : Value) (T : Tab) (w w0 : World) (F : Nat → Prop) (hb : Below w0.heap.size w0 w) (h0 : TabV w0 cv iv T) (hr : Rg T) (hn63 : T.nm.size ≤ maxLen) (h : CatI c L w F) :
    Calls Tryz.prog 13 #[.pointer (some ⟨c, 0, none⟩), tabVal cv iv T] w (CreR c L T w F) := by
  obtain ⟨m, G, hG, hL, hF⟩ := h
  have hcl := lt_of hG.top
  have HK : Hid (∀ u, Below w.heap.size w u → CatG u c m G) := fun u hu => hG.kept fun i hi => hu.block i (hG.lt hi)
  have HCk : Hid (∀ u, Below w.heap.size w u → Calls Tryz.prog 21 #[tabVal cv iv T] u fun e w' => e = .returned (.int .i64 (chk T)) ∧ Below u.heap.size u w') := fun u hu => check_any cv iv T u w0 (hb.trans (hu.mono hb.size)) h0 hr
  have HGoes : Hid (∀ u, Below w.heap.size w u → CatI c L u F ∧ Goes (CatI c L) w u F) := fun u hu => by
    have h1 : CatI c L u F := ⟨m, G, HK.out u hu, hL, hF⟩
    exact ⟨h1, F, h1, Turn.ofBelow _ hu, fun _ hi => Or.inl hi⟩
  have HCp : Hid (T.may = true → ∀ u, Below w.heap.size w u → Calls Tryz.prog 22 #[tabVal cv iv T] u (CopyR T u)) := fun hm u hu => copyTable_any cv iv T u w0 (hb.trans (hu.mono hb.size)) h0 (may_parts hm)
  have HLk : Hid (∀ u, Below w.heap.size w u → (∃ g, Dk.getL (kb T.nm) G = some g ∧ (Instr.lookup 82 (.map (some m)) (.string T.nm) true).run Tryz.prog u = .ok (.tuple #[g.val, .bool true]) u) ∨ (Dk.getL (kb T.nm) G = none ∧ (Instr.lookup 82 (.map (some m)) (.string T.nm) true).run Tryz.prog u = .ok (.tuple #[zeroTab, .bool false]) u)) := fun u hu => (HK.out u hu).look T.nm hn63
  have HLen : Hid (L.length = G.length) := by show _ = _; rw [hL, Dk.length_mapL]
  have HGet : Hid (Dk.getL (kb T.nm) L = (Dk.getL (kb T.nm) G).map Ge.T) := by show _ = _; rw [hL, Dk.getL_mapL]
  have HPut : Hid (∀ g : Ge, g.T = T → Dk.putL (kb T.nm) T L = Dk.mapL Ge.T (Dk.putL (kb T.nm) g G)) := fun g e => by rw [hL, Dk.mapL_putL, e]
  have HFt : Hid (∀ i, F i ↔ catFoot c m G i) := hF
  obtain ⟨g1, X, g2, g3, g4⟩ := h0
  obtain ⟨ca, cc, rfl, s1, s2⟩ := slice_shape g1
  obtain ⟨ia, ic, rfl, t1, t2⟩ := slice_shape g2
  unfold tabVal at HCk HCp ⊢
  obtain ⟨N, hNn⟩ : ∃ N, T.co.length = N := ⟨_, rfl⟩
  obtain ⟨M, hMm⟩ : ∃ M, X.length = M := ⟨_, rfl⟩
  obtain ⟨key, hkey⟩ : ∃ key, T.key = key := ⟨_, rfl⟩
  obtain ⟨nm, hnm⟩ : ∃ nm, T.nm = nm := ⟨_, rfl⟩
  have HNm : Hid (T.nm = nm ∧ T.key = key) := ⟨hnm, hkey⟩
  rw [hNn, hMm, hkey, hnm] at HCk HCp
  rw [hnm] at HLk HGet HPut
  rw [hNn, hMm, hkey, hnm]
  obtain ⟨xb, hxb⟩ : ∃ xb, w.heap.size = xb := ⟨_, rfl⟩
  obtain ⟨w1, hw1⟩ : ∃ w1, w.alloc (tabBox nm ca N cc key ia M ic) = w1 := ⟨_, rfl⟩
  have hx1 : w1.heap[xb]? = some (tabBox nm ca N cc key ia M ic) := by rw [← hw1, ← hxb]; exact heap_new w _
  have HB1 : Hid (Below w.heap.size w w1) := by show Below _ _ _; rw [← hw1]; exact (Below.refl _ _).alloc (Nat.le_refl _) _
  have HBX : Hid (∀ u, Below w1.heap.size w1 u → Below w.heap.size w u ∧ u.cell? ⟨xb, 0, none⟩ = some (.string nm) ∧ u.cell? ⟨xb, 1, none⟩ = some (.slice ca N cc) ∧ u.cell? ⟨xb, 2, none⟩ = some (.int .i64 key) ∧ u.cell? ⟨xb, 3, none⟩ = some (.slice ia M ic) ∧ u.cell? ⟨c, 0, none⟩ = some (.map (some m)) ∧ (∀ ty, (Builtin.len_ #[82] ty #[.map (some m)]).run Tryz.prog u = .ok (.int .i64 (G.length : Int)) u)) := fun u hu => by
    have hb2 : Below w.heap.size w u := HB1.out.trans (hu.mono HB1.out.size)
    have e := (hu.block xb (lt_of hx1)).trans hx1
    have hG2 := HK.out u hb2
    refine ⟨hb2, by rw [cell_of e]; rfl, by rw [cell_of e]; rfl, by rw [cell_of e]; rfl, by rw [cell_of e]; rfl, by rw [cell_of hG2.top]; rfl, fun ty => ?_⟩
    have := hG2.map.len Tryz.underlying82 ty
    rw [Dk.toD_size] at this
    exact this
  obtain ⟨-, c0, c1, c2, c3, -⟩ := HBX.out w1 (Below.refl _ _)
  clear g1 g2 g3 g4 hr hb hG hL hF hn63 hNn hMm hkey hnm s1 t1 hx1
  cases hmay : T.may with
  | false =>
    have HE : Hid (crE L T = 140) := by show _ = _; unfold crE; rw [hmay]; rfl
    have hck : chk T = 140 := chk_no hmay
    rw [hck] at HCk
    clear hck hmay HCp
    go_enter Tryz.func13, Tryz.ntmps13
    go_wp2_with (go_at_call 21; go_must (refine (HCk.out _ HB1.out).mono ?_; rintro e w2 ⟨rfl, hb2⟩))
    go_ret
    have hB2 := (HBX.out w2 hb2).1
    refine ⟨by rw [HE.out]; rfl, ?_⟩
    unfold crL
    rw [HE.out, if_neg (by decide)]
    exact (HGoes.out _ hB2).2
  | true =>
    have hck : chk T = 0 := chk_yes hmay
    rw [hck] at HCk
    have HCp1 : Hid (∀ u, Below w.heap.size w u → Calls Tryz.prog 22 #[.agg #[.string nm, .slice ca N cc, .int .i64 key, .slice ia M ic]] u (CopyR T u)) := HCp.out hmay
    have HMay : Hid (MayT T ∧ T.may = true) := ⟨may_parts hmay, hmay⟩
    clear hck HCp hmay
    go_enter Tryz.func13, Tryz.ntmps13
    go_wp2_with (go_at_call 21; go_must (refine (HCk.out _ HB1.out).mono ?_; rintro e w2 ⟨rfl, hb2⟩))
    have HB2 : Hid (Below w1.heap.size w1 w2) := hb2
    obtain ⟨hB2, d0, d1, d2, d3, d4, -⟩ := HBX.out w2 hb2
    have HB2' : Hid (∀ u, Below w2.heap.size w2 u → Below w1.heap.size w1 u) := fun u hu => HB2.out.trans (hu.mono HB2.out.size)
    rcases HLk.out w2 hB2 with ⟨g, hg, -⟩ | ⟨hn, -⟩
    · -- it is there
      obtain ⟨⟨ga, gn, gc, hgv⟩, ja, jn, jc, hjv⟩ := ((HK.out w2 hB2).tabs _ (Dk.getL_mem hg)).1.shape
      obtain ⟨gnm, hgnm⟩ : ∃ x, g.T.nm = x := ⟨_, rfl⟩
      obtain ⟨gk, hgk⟩ : ∃ x, g.T.key = x := ⟨_, rfl⟩
      have HS : Hid (∀ u, Below w2.heap.size w2 u → u.cell? ⟨c, 0, none⟩ = some (.map (some m)) ∧ u.cell? ⟨xb, 0, none⟩ = some (.string nm) ∧ (Instr.lookup 82 (.map (some m)) (.string nm) true).run Tryz.prog u = .ok (.tuple #[.agg #[.string gnm, .slice ga gn gc, .int .i64 gk, .slice ja jn jc], .bool true]) u) := fun u hu => by
        obtain ⟨q0, q1, q2, q3, q4, q5, -⟩ := HBX.out u (HB2'.out u hu)
        refine ⟨q5, q1, ?_⟩
        rcases HLk.out u q0 with ⟨g', hg', hr⟩ | ⟨hn, _⟩
        · rw [hg] at hg'
          cases hg'
          unfold Ge.val tabVal at hr
          rw [hgv, hjv, hgnm, hgk] at hr
          exact hr
        · rw [hg] at hn; cases hn
      have HE : Hid (crE L T = 6) := by
        show _ = _
        unfold crE
        rw [HMay.out.2, HNm.out.1, HGet.out, hg]
        rfl
      obtain ⟨-, -, d5⟩ := HS.out w2 (Below.refl _ _)
      obtain ⟨-, -, d6⟩ := HS.out w2.drew (below_drewN w2 1)
      clear hg hgv hjv hgnm hgk hb2 hB2 HCp1 HCk
      go_wp2_with fail
      go_region_held3 (fun u => u.cell? ⟨c, 0, none⟩ = some (.map (some m)) ∧ u.cell? ⟨xb, 0, none⟩ = some (.string nm) ∧ (Instr.lookup 82 (.map (some m)) (.string nm) true).run Tryz.prog u = .ok (.tuple #[.agg #[.string gnm, .slice ga gn gc, .int .i64 gk, .slice ja jn jc], .bool true]) u) ((refine HS.out _ ?_; (repeat (first | with_reducible exact Below.refl _ _ | with_reducible apply bl_drew | with_reducible apply bl_alloc)); done)) (fail)
      all_goals (
        go_wp2
        go_ret
        refine ⟨by rw [HE.out]; rfl, ?_⟩
        unfold crL
        rw [HE.out, if_neg (by decide)]
        exact (HGoes.out _ (HBX.out _ (HB2'.out _ (by (repeat (first | with_reducible exact Below.refl _ _ | with_reducible apply bl_drew | with_reducible apply bl_alloc))))).1).2)
    · -- it is not
      have HS : Hid (∀ u, Below w2.heap.size w2 u → u.cell? ⟨c, 0, none⟩ = some (.map (some m)) ∧ u.cell? ⟨xb, 0, none⟩ = some (.string nm) ∧ (Instr.lookup 82 (.map (some m)) (.string nm) true).run Tryz.prog u = .ok (.tuple #[zeroTab, .bool false]) u) := fun u hu => by
        obtain ⟨q0, q1, q2, q3, q4, q5, -⟩ := HBX.out u (HB2'.out u hu)
        refine ⟨q5, q1, ?_⟩
        rcases HLk.out u q0 with ⟨g', hg', _⟩ | ⟨_, hr⟩
        · rw [hn] at hg'; cases hg'
        · exact hr
      have HNo : Hid (Dk.getL (kb nm) G = none) := hn
      obtain ⟨-, -, d5⟩ := HS.out w2 (Below.refl _ _)
      obtain ⟨-, -, d6⟩ := HS.out w2.drew (below_drewN w2 1)
      obtain ⟨gl, hgl⟩ : ∃ gl, G.length = gl := ⟨_, rfl⟩
      have HGl : Hid (G.length = gl) := hgl
      have HBX3 : Hid (∀ u, Below w2.heap.size w2 u → Below w.heap.size w u ∧ u.cell? ⟨xb, 0, none⟩ = some (.string nm) ∧ u.cell? ⟨xb, 1, none⟩ = some (.slice ca N cc) ∧ u.cell? ⟨xb, 2, none⟩ = some (.int .i64 key) ∧ u.cell? ⟨xb, 3, none⟩ = some (.slice ia M ic) ∧ u.cell? ⟨c, 0, none⟩ = some (.map (some m)) ∧ (∀ ty, (Builtin.len_ #[82] ty #[.map (some m)]).run Tryz.prog u = .ok (.int .i64 (gl : Int)) u)) := fun u hu => by
        have := HBX.out u (HB2'.out u hu)
        rw [hgl] at this
        exact this
      clear hb2 hB2 hn HCk hgl
      by_cases hfull : 4096 ≤ gl
      · have HE : Hid (crE L T = 2) := by
          show _ = _
          unfold crE
          rw [HMay.out.2, HNm.out.1, HGet.out, HNo.out, HLen.out, HGl.out]
          show (if (4096 ≤ gl) then (2 : Int) else 0) = 2
          rw [if_pos hfull]
        have hfI : (4096 : Int) ≤ (gl : Int) := by omega
        go_wp2_with fail
        go_region_held3 (fun u => u.cell? ⟨c, 0, none⟩ = some (.map (some m)) ∧ u.cell? ⟨xb, 0, none⟩ = some (.string nm) ∧ (Instr.lookup 82 (.map (some m)) (.string nm) true).run Tryz.prog u = .ok (.tuple #[zeroTab, .bool false]) u) ((refine HS.out _ ?_; (repeat (first | with_reducible exact Below.refl _ _ | with_reducible apply bl_drew | with_reducible apply bl_alloc)); done)) (fail)
        all_goals (
          obtain ⟨hB3, -, -, -, -, e5, e6⟩ := HBX3.out (w2.alloc tabZ).drew (by (repeat (first | with_reducible exact Below.refl _ _ | with_reducible apply bl_drew | with_reducible apply bl_alloc)))
          have e5' : (w2.alloc tabZ).cell? ⟨c, 0, none⟩ = some (.map (some m)) := e5
          go_wp2
          go_ret
          refine ⟨by rw [HE.out]; rfl, ?_⟩
          unfold crL
          rw [HE.out, if_neg (by decide)]
          exact (HGoes.out _ hB3).2)
      · have HE : Hid (crE L T = 0) := by
          show _ = _
          unfold crE
          rw [HMay.out.2, HNm.out.1, HGet.out, HNo.out, HLen.out, HGl.out]
          show (if (4096 ≤ gl) then (2 : Int) else 0) = 0
          rw [if_neg hfull]
        have hfI : ¬ (4096 : Int) ≤ (gl : Int) := by omega
        have HFin : Hid (∀ u base cv' iv' X', Below w.heap.size w u → w.heap.size ≤ base → TabO u base cv' iv' X' T → ∃ w6, (Instr.mapUpdate 82 (.map (some m)) (.string nm) (tabVal cv' iv' T)).run Tryz.prog u = .ok () w6 ∧ CreR c L T w F (.returned (.int .i64 0)) w6 ∧ Turn (fun i => i = m) u w6) := fun u base cv' iv' X' hu hbs hT => by
          have hG := HK.out u hu
          obtain ⟨w6, k1, k2, k3⟩ := hG.put ⟨T, cv', iv', X'⟩ (by show Dk.getL (kb T.nm) G = none; rw [HNm.out.1]; exact HNo.out) (by rw [HGl.out]; omega) (hT.low (Nat.zero_le _)) HMay.out.1
          refine ⟨w6, by rw [← HNm.out.1]; exact k1, ⟨by rw [HE.out], ?_⟩, k3⟩
          refine ⟨catFoot c m (Dk.putL (kb T.nm) ⟨T, cv', iv', X'⟩ G), ⟨m, _, k2, ?_, fun _ => Iff.rfl⟩, (Turn.ofBelow F hu).trans (k3.mono fun i hi => (HFt.out i).2 (Or.inr (Or.inl hi))), fun i hi => ?_⟩
          · unfold crL
            rw [HE.out, if_pos rfl]
            have := HPut.out ⟨T, cv', iv', X'⟩ rfl
            rw [← HNm.out.1] at this
            exact this
          · rcases hi with hi | hi | ⟨p, hp, hi⟩
            · exact Or.inl ((HFt.out i).2 (Or.inl hi))
            · exact Or.inl ((HFt.out i).2 (Or.inr (Or.inl hi)))
            · unfold Dk.putL at hp
              rcases Dk.mem_insL.1 hp with rfl | hp
              · exact Or.inr (Nat.le_trans hbs (TabO.lt (g := ⟨T, cv', iv', X'⟩) hT hi).1)
              · exact Or.inl ((HFt.out i).2 (Or.inr (Or.inr ⟨p, (Dk.mem_delL.1 hp).1, hi⟩)))
        go_wp2_with fail
        go_region_held3 (fun u => u.cell? ⟨c, 0, none⟩ = some (.map (some m)) ∧ u.cell? ⟨xb, 0, none⟩ = some (.string nm) ∧ (Instr.lookup 82 (.map (some m)) (.string nm) true).run Tryz.prog u = .ok (.tuple #[zeroTab, .bool false]) u) ((refine HS.out _ ?_; (repeat (first | with_reducible exact Below.refl _ _ | with_reducible apply bl_drew | with_reducible apply bl_alloc)); done)) (fail)
        all_goals (
          obtain ⟨hB3, e1, e2, e3, e4, e5, e6⟩ := HBX3.out (w2.alloc tabZ).drew (by (repeat (first | with_reducible exact Below.refl _ _ | with_reducible apply bl_drew | with_reducible apply bl_alloc)))
          have HC3 : Hid (Calls Tryz.prog 22 #[.agg #[.string nm, .slice ca N cc, .int .i64 key, .slice ia M ic]] (w2.alloc tabZ).drew fun e w' => ∃ a1 n1 c1 a2 n2 c2 X', e = .returned (.agg #[.string nm, .slice a1 n1 c1, .int .i64 key, .slice a2 n2 c2]) ∧ Hid (TabO w' (w2.alloc tabZ).drew.heap.size (.slice a1 n1 c1) (.slice a2 n2 c2) X' T) ∧ Hid (Below (w2.alloc tabZ).drew.heap.size (w2.alloc tabZ).drew w')) := (HCp1.out _ hB3).mono fun e w' ⟨cv', iv', X', e1, e2, e3⟩ => by
            obtain ⟨⟨a1, n1, c1, rfl⟩, a2, n2, c2, rfl⟩ := e2.shape
            refine ⟨a1, n1, c1, a2, n2, c2, X', ?_, e2, e3⟩
            rw [e1]
            unfold tabVal
            rw [HNm.out.1, HNm.out.2]
          have HB3 : Hid (Below w.heap.size w (w2.alloc tabZ).drew) := hB3
          clear hB3 HS HBX3 HLk HCp1 d5 d6
          go_wp2_with (go_at_call 22; go_must (refine HC3.out.mono ?_; rintro e w4 ⟨a1, n1, c1', a2, n2, c2', X', rfl, hT4, hb4⟩))
          have HB4 : Hid (Below w.heap.size w w4) := HB3.out.trans (hb4.out.mono HB3.out.size)
          obtain ⟨w5, hw5⟩ : ∃ w5, w4.alloc (.cells #[.string nm, .slice a1 n1 c1', .int .i64 key, .slice a2 n2 c2'] 29) = w5 := ⟨_, rfl⟩
          obtain ⟨ob, hob⟩ : ∃ ob, w4.heap.size = ob := ⟨_, rfl⟩
          have hob5 : w5.heap[ob]? = some (.cells #[.string nm, .slice a1 n1 c1', .int .i64 key, .slice a2 n2 c2'] 29) := by rw [← hw5, ← hob]; exact heap_new w4 _
          have HB5 : Hid (Below w.heap.size w w5) := by show Below _ _ _; rw [← hw5]; exact bl_alloc HB4.out _
          have hT5 : TabO w5 (w2.alloc tabZ).drew.heap.size (.slice a1 n1 c1') (.slice a2 n2 c2') X' T := by
            rw [← hw5]
            exact TabO.block (g := ⟨T, .slice a1 n1 c1', .slice a2 n2 c2', X'⟩) hT4.out fun i hi => Below.heap_alloc _ _ _ (TabO.lt (g := ⟨T, .slice a1 n1 c1', .slice a2 n2 c2', X'⟩) hT4.out hi).2
          have hT5d : TabO w5.drew (w2.alloc tabZ).drew.heap.size (.slice a1 n1 c1') (.slice a2 n2 c2') X' T := TabO.block (g := ⟨T, .slice a1 n1 c1', .slice a2 n2 c2', X'⟩) hT5 fun _ _ => rfl
          obtain ⟨w6, hrun, hcre, ht6⟩ := HFin.out w5.drew _ _ _ X' (bl_drew HB5.out) HB3.out.size hT5d
          have hcells : ∀ u : World, (∀ i, i < w5.heap.size → i ≠ m → u.heap[i]? = w5.heap[i]?) → u.cell? ⟨c, 0, none⟩ = some (.map (some m)) ∧ u.cell? ⟨ob, 0, none⟩ = some (.string nm) ∧ u.cell? ⟨ob, 1, none⟩ = some (.slice a1 n1 c1') ∧ u.cell? ⟨ob, 2, none⟩ = some (.int .i64 key) ∧ u.cell? ⟨ob, 3, none⟩ = some (.slice a2 n2 c2') := fun u hu => by
            have hG5 := HK.out w5 HB5.out
            have e1 := (hu c (lt_of hG5.top) (Ne.symm hG5.ne)).trans hG5.top
            have hne : ob ≠ m := fun e => by
              obtain ⟨es, clock, hbm, _⟩ := hG5.map
              rw [← e, hob5] at hbm
              simp at hbm
            have e2 := (hu ob (lt_of hob5) hne).trans hob5
            exact ⟨by rw [cell_of e1]; rfl, by rw [cell_of e2]; rfl, by rw [cell_of e2]; rfl, by rw [cell_of e2]; rfl, by rw [cell_of e2]; rfl⟩
          have HS5 : Hid (u5c w5.drew c m ob nm a1 n1 c1' key a2 n2 c2' ∧ u5c w6 c m ob nm a1 n1 c1' key a2 n2 c2') := ⟨hcells w5.drew fun _ _ _ => rfl, hcells w6 fun i hi hne => ht6.block i hi hne⟩
          obtain ⟨f0, f1, f2, f3, f4⟩ := hcells w5 fun _ _ _ => rfl
          unfold tabVal at hrun
          rw [HNm.out.1, HNm.out.2] at hrun
          have HCre : Hid (CreR c L T w F (.returned (.int .i64 0)) w6) := hcre
          rw [hw5, hob]
          clear hcells hcre ht6 hT5 hT5d hob5 hT4 hb4 HC3 HFin hw5 hob
          go_region_held3 (fun u => u.cell? ⟨c, 0, none⟩ = some (.map (some m)) ∧ u.cell? ⟨ob, 0, none⟩ = some (.string nm) ∧ u.cell? ⟨ob, 1, none⟩ = some (.slice a1 n1 c1') ∧ u.cell? ⟨ob, 2, none⟩ = some (.int .i64 key) ∧ u.cell? ⟨ob, 3, none⟩ = some (.slice a2 n2 c2')) (first | exact HS5.out.2 | exact HS5.out.1) (fail)
          go_wp2
          go_ret
          exact HCre.out)

end Go.Proofs.YtfddmibaojfalaaGreat
