/- What an operation comes to: the program's add. -/
import Derived.Test.YtfddmibaojfalaaGreatXDeedJ
namespace Go.Proofs.YtfddmibaojfalaaGreat
open Go.RowKit

/-- what a sum comes to -/
def AddR (kcols : List Nat) (R : List Rw) (row : List V) (K : Nat) (w : World) (e : Ending) (w' : World) : Prop := ∃ tg g c, e = .returned (effV 0 (.slice (some ⟨tg, 0, none⟩) 1 1) (optV (rowOf kcols R (row.take K))) (.slice (some ⟨g, 0, none⟩) row.length c)) ∧ VRow w' w.heap.size g row.length c row ∧ (SliceAt w' (.slice (some ⟨tg, 0, none⟩) 1 1) 1 enR [⟨g, c, row⟩] ∧ w.heap.size ≤ tg) ∧ Below w.heap.size w w'
theorem VRow.setV {w : World} {base g n c : Nat} {L : List V} (h : VRow w base g n c L) {i : Nat} (hi : i < n) (k m : Int) (s : ByteArray) : VRow (setV w g (i * 4) k m s) base g n c (L.set i ⟨k, m, s⟩) := by
  have hl : L.length = n := by obtain ⟨_, _, _, _, _, _, hl, _⟩ := h; exact hl
  have hs : ∀ y z : V, (L.set i y)[i]? = some z → z = y := fun y z hz => by rw [List.getElem?_set_self (by omega)] at hz; exact (Option.some.inj hz).symm
  have h0 := h.set1 (i := i) (f := 0) hi (by omega) (.int .i64 k) ⟨k, (at_ L i).n, (at_ L i).s⟩ (fun y hy => by simp [at_, hy, enV])
  have h1 := h0.set1 (i := i) (f := 1) hi (by omega) (.int .i64 m) ⟨k, m, (at_ L i).s⟩ (fun y hy => by rw [hs _ _ hy]; rfl)
  rw [List.set_set] at h1
  have h2 := h1.set1 (i := i) (f := 2) hi (by omega) (.complex .f64 0 0) ⟨k, m, (at_ L i).s⟩ (fun y hy => by rw [hs _ _ hy]; rfl)
  rw [List.set_set] at h2
  have h3 := h2.set1 (i := i) (f := 3) hi (by omega) (.string s) ⟨k, m, s⟩ (fun y hy => by rw [hs _ _ hy]; rfl)
  rw [List.set_set] at h3
  exact h3

section
variable {tb : Nat} {cv iv kv rv xv rowv keyv : Value} {T : Tab} {kcols : List Nat} {row key : List V} {R : List Rw}

set_option linter.unusedSimpArgs false in
set_option maxRecDepth 100000 in
set_option maxHeartbeats 2000000 in
theorem add_range {w0 : World} (h : TbV w0 tb cv iv kv rv xv T) (hM : LAt w0 tb 4 kv rv kcols R) (hv : SliceAt w0 keyv 4 enV key) (hl : key.length ≤ 32) (hlk : (key.length : Int) = T.key) (hlc : key.length ≤ kcols.length) (ho : OfCols T kcols key) (hm : Mono kcols (cont R) key) (w : World) (hb : Below w0.heap.size w0 w)
    {r : Rw} (hro : rowOf kcols R key = some r) (hrow : RowOk w0 r) (at0 : Nat) (x n : Int) (hx : r.vs[at0]? = some ⟨2, x, ⟨#[]⟩⟩) (nm : ByteArray) (hk : T.key ≤ (at0 : Int)) (hc : T.co[at0]? = some (nm, 2)) (hx64 : In64 x) (hn64 : In64 n) (hS : ¬ In64 (x + n)) (h32 : r.vs.length ≤ 32)
    (kind : Int) (tbl : ByteArray) (to row : Value) (ix : ByteArray) (lim : Int) (ht : ∃ a m c, to = .slice a m c) (hr : ∃ a m c, row = .slice a m c) :
    Calls Tryz.prog 42 #[.pointer (some ⟨tb, 0, none⟩), opA kind tbl keyv to row ix (at0 : Int) n lim] w fun e w' => e = .returned (effV 1 nilS nilS nilS) ∧ Below w.heap.size w w' := by
  obtain ⟨k1, k2, k3, rfl⟩ := hr
  obtain ⟨t1, t2, t3, rfl⟩ := ht
  have HU : Hid (∀ u, Below w.heap.size w u → Below w0.heap.size w0 u) := fun u hu => hb.trans (hu.mono hb.size)
  have HI : Hid (∀ u, Below w.heap.size w u → Calls Tryz.prog 54 #[.pointer (some ⟨tb, 0, none⟩), keyv] u fun e w' => e = .returned (.bool true) ∧ Below u.heap.size u w') := fun u hu => isKey_yes h hM.cs hv hl hlk ho u (HU.out u hu)
  have HMr : Hid (∀ u, Below w.heap.size w u → Calls Tryz.prog 64 #[.pointer (some ⟨tb, 0, none⟩), .int .i64 (at0 : Int)] u fun e w' => e = .returned (.bool true) ∧ w' = u) := fun u hu => mayRise_yes h at0 nm hk hc u (HU.out u hu)
  have HRo : Hid (∀ u, Below w.heap.size w u → Calls Tryz.prog 58 #[.pointer (some ⟨tb, 0, none⟩), keyv] u fun e w' => e = .returned (.slice (some ⟨r.g, 0, none⟩) r.vs.length r.c) ∧ Below u.heap.size u w') := fun u hu => by
    have := rowOf_any h hM hv hlc ho.ok hm u (HU.out u hu)
    rw [hro] at this
    exact this
  have HAd : Hid (∀ u, Calls Tryz.prog 65 #[vagg 2 x ⟨#[]⟩, vagg 2 n ⟨#[]⟩] u fun e w' => e = .returned (.tuple #[vagg 0 0 ⟨#[]⟩, .int .i64 1]) ∧ Below u.heap.size u w') := fun u => by
    have := vAdd_any x n hx64 hn64 u
    have hf : ¬ in64 (x + n) = true := fun e => hS (in64_iff.1 e)
    unfold addV addE at this
    rw [if_neg hf, if_neg hf] at this
    exact this
  obtain ⟨va, vc, rfl⟩ := hv.keyN
  obtain ⟨KN, hKN⟩ : ∃ N, key.length = N := ⟨_, rfl⟩
  rw [hKN] at HI HRo ⊢
  obtain ⟨w2, xb, HE⟩ := ent_of w kind tbl (.slice va KN vc) (.slice t1 t2 t3) (.slice k1 k2 k3) ix (at0 : Int) n lim
  have HH : Hid (Ent w w2 xb kind tbl (.slice va KN vc) (.slice t1 t2 t3) (.slice k1 k2 k3) ix (at0 : Int) n lim) := HE
  obtain ⟨ra, rcc, er, rl1, rl2, hcell⟩ := hrow.1.vals
  have hatl := (List.getElem?_eq_some_iff.1 hx).1
  have HRc : Hid (∀ u, Below w2.heap.size w2 u → u.cell? ⟨r.g, at0 * 4, none⟩ = some (.int .i64 2) ∧ u.cell? ⟨r.g, at0 * 4 + 1, none⟩ = some (.int .i64 x) ∧ u.cell? ⟨r.g, at0 * 4 + 2, none⟩ = some (.complex .f64 0 0) ∧ u.cell? ⟨r.g, at0 * 4 + 3, none⟩ = some (.string ⟨#[]⟩) ∧ r.g < u.heap.size) := fun u hu => by
    obtain ⟨b, off, e1, q4, q⟩ := hcell u (HU.out u (HE.up hu)) at0 _ hx
    rw [e1] at er
    unfold Rw.val at er
    injection er with e2
    injection e2 with e3
    injection e3 with e4 e5
    subst e4; subst e5
    simp only [Nat.zero_add] at q
    exact ⟨q.1, q.2.1, q.2.2.1, q.2.2.2, q4⟩
  have hcm : r.c ≤ 9223372036854775807 ∧ r.vs.length ≤ r.c := by
    unfold Rw.val at er
    injection er with e2 e3 e4
    subst e4
    unfold maxLen at rl2
    exact ⟨rl2, rl1⟩
  obtain ⟨hcm1, hcm2⟩ := hcm
  have HS : Hid (∀ u, Below w2.heap.size w2 u → u.cell? ⟨xb, 2, none⟩ = some (.slice va KN vc) ∧ u.cell? ⟨xb, 6, none⟩ = some (.int .i64 (at0 : Int)) ∧ u.cell? ⟨xb, 7, none⟩ = some (.int .i64 n) ∧ xb + 1 < u.heap.size) := fun u hu => by
    obtain ⟨q1, _, _, q2, q3, _⟩ := HE.cells hu
    exact ⟨q1, q2, q3, (HE.eff hu).2.2.2.2.1⟩
  obtain ⟨rg, rc, rvs⟩ := r
  dsimp only at HRo HRc hatl hcm1 hcm2 h32
  obtain ⟨M, hM'⟩ : ∃ M, rvs.length = M := ⟨_, rfl⟩
  rw [hM'] at HRo hatl hcm2 h32
  have hatI : (at0 : Int) < (M : Int) := by omega
  obtain ⟨a0, a1, a2, a3⟩ := HS.out w2 (Below.refl _ _)
  have hw2 := HE.eq
  have hxb := HE.at_
  have hnil := fun (u : World) (a : Option Addr) (n c : Nat) => Lib.run_eql_slice_nil (P := Tryz.prog) u 37 36 a n c 0 0 Tryz.underlying37
  have hsl := @store_law
  clear h hM hv hl hlk hlc ho hm hb hKN HE hcell er rl1 rl2 hx hro hrow hM' hS hx64 hn64 hk hc HU
  go_enter Tryz.func42, Tryz.ntmps42
  go_wp2_with (first
    | (go_at_call 54; go_must (refine (HI.out _ HH.out.below).mono ?_; rintro e w3 ⟨rfl, h3⟩; obtain ⟨b0, b1, b2, b3⟩ := HS.out w3 h3))
    | (go_at_call 64; go_must (refine (HMr.out _ (HH.out.up h3)).mono ?_; rintro e w4 ⟨rfl, hw4⟩; obtain rfl := hw4.symm))
    | (go_at_call 58; go_must (refine (HRo.out _ (HH.out.up h3)).mono ?_; rintro e w5 ⟨rfl, h5⟩; obtain ⟨c0, c1, c2, c3⟩ := HS.out w5 (h3.trans (h5.mono h3.size)); obtain ⟨r0, r1, r2, r3, r4⟩ := HRc.out w5 (h3.trans (h5.mono h3.size)))))
  have H5 : Hid (Below w2.heap.size w2 w5) := h3.trans (h5.mono h3.size)
  have HX : Hid (∀ u, Below w5.heap.size w5 u → Below w2.heap.size w2 u ∧ u.cell? ⟨xb, 6, none⟩ = some (.int .i64 (at0 : Int)) ∧ u.cell? ⟨xb, 7, none⟩ = some (.int .i64 n) ∧ u.cell? ⟨rg, at0 * 4, none⟩ = some (.int .i64 2) ∧ u.cell? ⟨rg, at0 * 4 + 1, none⟩ = some (.int .i64 x) ∧ u.cell? ⟨rg, at0 * 4 + 2, none⟩ = some (.complex .f64 0 0) ∧ u.cell? ⟨rg, at0 * 4 + 3, none⟩ = some (.string ⟨#[]⟩)) := fun u hu => by
    have k := H5.out.trans (hu.mono H5.out.size)
    obtain ⟨q1, q2, q3, q4⟩ := HS.out u k
    obtain ⟨p1, p2, p3, p4, p5⟩ := HRc.out u k
    exact ⟨k, q2, q3, p1, p2, p3, p4⟩
  clear h3 h5
  obtain ⟨sb, hsb⟩ : ∃ sb, w5.heap.size = sb := ⟨_, rfl⟩
  have hrs : rg < sb := by omega
  have hxs : xb + 1 < sb := by omega
  have hn1 : ¬ (xb = sb) := by omega
  have hn2 : ¬ (sb = xb) := by omega
  have hn3 : ¬ (rg = sb) := by omega
  have hn4 : ¬ (sb = rg) := by omega
  have hn5 : ¬ (xb + 1 = sb) := by omega
  have hn6 : ¬ (sb = xb + 1) := by omega
  have HA1 : Hid (Calls Tryz.prog 65 #[vagg 2 x ⟨#[]⟩, vagg 2 n ⟨#[]⟩] w5.drew fun e w' => e = .returned (.tuple #[vagg 0 0 ⟨#[]⟩, .int .i64 1]) ∧ Hid (Below w5.heap.size w5 w') ∧ w'.cell? ⟨xb, 6, none⟩ = some (.int .i64 (at0 : Int)) ∧ w'.cell? ⟨xb, 7, none⟩ = some (.int .i64 n) ∧ w'.cell? ⟨rg, at0 * 4, none⟩ = some (.int .i64 2) ∧ w'.cell? ⟨rg, at0 * 4 + 1, none⟩ = some (.int .i64 x) ∧ w'.cell? ⟨rg, at0 * 4 + 2, none⟩ = some (.complex .f64 0 0) ∧ w'.cell? ⟨rg, at0 * 4 + 3, none⟩ = some (.string ⟨#[]⟩)) := (HAd.out _).mono fun e w' ⟨e1, e2⟩ => by
    have k := (bl_drew (Below.refl _ w5)).trans e2
    exact ⟨e1, k, (HX.out w' k).2⟩
  have HA2 : Hid (Calls Tryz.prog 65 #[vagg 2 x ⟨#[]⟩, vagg 2 n ⟨#[]⟩] (w5.alloc (vobj 0 0 ⟨#[]⟩)).drew fun e w' => e = .returned (.tuple #[vagg 0 0 ⟨#[]⟩, .int .i64 1]) ∧ Hid (Below w5.heap.size w5 w') ∧ (w'.cell? ⟨xb, 6, none⟩ = some (.int .i64 (at0 : Int)) ∧ w'.cell? ⟨xb, 7, none⟩ = some (.int .i64 n) ∧ w'.cell? ⟨rg, at0 * 4, none⟩ = some (.int .i64 2) ∧ w'.cell? ⟨rg, at0 * 4 + 1, none⟩ = some (.int .i64 x) ∧ w'.cell? ⟨rg, at0 * 4 + 2, none⟩ = some (.complex .f64 0 0) ∧ w'.cell? ⟨rg, at0 * 4 + 3, none⟩ = some (.string ⟨#[]⟩)) ∧ BoxV w' sb 0 0 ⟨#[]⟩ ∧ sb < w'.heap.size ∧ (∀ i, w'.frozen? ⟨sb, i, none⟩ = false) ∧ Hid (w'.heap[sb]? = some (vobj 0 0 ⟨#[]⟩))) := (HAd.out _).mono fun e w' ⟨e1, e2⟩ => by
    have k0 := bl_drew (bl_alloc (Below.refl _ w5) (vobj 0 0 ⟨#[]⟩))
    have k := k0.trans (e2.mono k0.size)
    have e := heap_new w5 (vobj 0 0 ⟨#[]⟩)
    rw [hsb] at e
    have e' : w'.heap[sb]? = some (vobj 0 0 ⟨#[]⟩) := (e2.block sb (lt_of e)).trans e
    exact ⟨e1, k, (HX.out w' k).2, boxV_of e', lt_of e', frozen_of e', e'⟩
  go_region_held3 (fun u => u.cell? ⟨xb, 6, none⟩ = some (.int .i64 (at0 : Int)) ∧ u.cell? ⟨xb, 7, none⟩ = some (.int .i64 n) ∧ u.cell? ⟨rg, at0 * 4, none⟩ = some (.int .i64 2) ∧ u.cell? ⟨rg, at0 * 4 + 1, none⟩ = some (.int .i64 x) ∧ u.cell? ⟨rg, at0 * 4 + 2, none⟩ = some (.complex .f64 0 0) ∧ u.cell? ⟨rg, at0 * 4 + 3, none⟩ = some (.string ⟨#[]⟩)) (go_keep)
    (first
      | (go_at_call 65; refine HA1.out.mono ?_; rintro e w6 ⟨rfl, H6, e0, e1, e2, e3, e4, e5⟩)
      | (go_at_call 65; refine HA2.out.mono ?_; rintro e w6 ⟨rfl, H6, ⟨e0, e1, e2, e3, e4, e5⟩, ⟨f0, f1, f2, f3⟩, f4, f5, HQ⟩))
  · obtain ⟨q, hq⟩ : ∃ q, w6.heap.size = q := ⟨_, rfl⟩
    obtain ⟨U, hU⟩ : ∃ U, w6.alloc (vobj 0 0 ⟨#[]⟩) = U := ⟨_, rfl⟩
    have hUq : U.heap[q]? = some (vobj 0 0 ⟨#[]⟩) := by rw [← hU, ← hq]; exact heap_new w6 _
    have HBU : Hid (Below w5.heap.size w5 U) := by show Below _ _ _; rw [← hU]; exact bl_alloc H6.out _
    rw [hU, hq]
    clear hU hq H6 e0 e1 e2 e3 e4 e5
    have HU2 : Hid (Below w2.heap.size w2 U) := H5.out.trans (HBU.out.mono H5.out.size)
    go_wp2_with (go_at_call 25; go_must (refine (refused_any 1 _).mono ?_; rintro e w7 ⟨rfl, h7⟩; obtain ⟨d0, d1, d2, d3, dl, dz⟩ := HH.out.eff (HU2.out.trans (h7.mono HU2.out.size)); have hb' := HH.out.store (HU2.out.trans (h7.mono HU2.out.size))))
    refine bodyPost_ret (by simp [results, Tryz.results42, go_sem, d0, d1, d2, d3]; rfl) rfl ?_
    exact ⟨rfl, hb' _ _ _ _⟩
  · obtain ⟨U, hU⟩ : ∃ U, set4 w6 sb (.int .i64 0) (.int .i64 0) (.complex .f64 0 0) (.string ⟨#[]⟩) = U := ⟨_, rfl⟩
    have hUq : U.heap[sb]? = some (vobj 0 0 ⟨#[]⟩) := by rw [← hU]; exact set4_heap HQ.out _ _ _ _
    have HBU : Hid (Below w5.heap.size w5 U) := by show Below _ _ _; rw [← hU]; exact turn_new H6.out (by omega) (set4_turn _ _ _ _ _ _)
    unfold set4 at hU
    rw [hU]
    obtain ⟨q, hq⟩ : ∃ q, sb = q := ⟨_, rfl⟩
    rw [hq] at hUq ⊢
    clear hU hq H6 HQ e0 e1 e2 e3 e4 e5 f0 f1 f2 f3 f4 f5
    have HU2 : Hid (Below w2.heap.size w2 U) := H5.out.trans (HBU.out.mono H5.out.size)
    go_wp2_with (go_at_call 25; go_must (refine (refused_any 1 _).mono ?_; rintro e w7 ⟨rfl, h7⟩; obtain ⟨d0, d1, d2, d3, dl, dz⟩ := HH.out.eff (HU2.out.trans (h7.mono HU2.out.size)); have hb' := HH.out.store (HU2.out.trans (h7.mono HU2.out.size))))
    refine bodyPost_ret (by simp [results, Tryz.results42, go_sem, d0, d1, d2, d3]; rfl) rfl ?_
    exact ⟨rfl, hb' _ _ _ _⟩

set_option linter.unusedSimpArgs false in
set_option maxRecDepth 100000 in
set_option maxHeartbeats 2000000 in
theorem add_ok {w0 : World} (h : TbV w0 tb cv iv kv rv xv T) (hM : LAt w0 tb 4 kv rv kcols R) (hv : SliceAt w0 keyv 4 enV key) (hl : key.length ≤ 32) (hlk : (key.length : Int) = T.key) (hlc : key.length ≤ kcols.length) (ho : OfCols T kcols key) (hm : Mono kcols (cont R) key) (w : World) (hb : Below w0.heap.size w0 w)
    {r : Rw} (hro : rowOf kcols R key = some r) (hrow : RowOk w0 r) (at0 : Nat) (x n : Int) (hx : r.vs[at0]? = some ⟨2, x, ⟨#[]⟩⟩) (nm : ByteArray) (hk : T.key ≤ (at0 : Int)) (hc : T.co[at0]? = some (nm, 2)) (hx64 : In64 x) (hn64 : In64 n) (S : Int) (hSd : x + n = S) (hS : In64 S) (h32 : r.vs.length ≤ 32) (K : Nat) (hK : T.key = (K : Int)) (hKr : K ≤ r.vs.length) (hKc : K ≤ kcols.length) (hmo : Mono kcols (cont R) ((r.vs.set at0 ⟨2, S, ⟨#[]⟩⟩).take K)) (hfew : R.length < 4096)
    (hcl : ∀ (u : World) (ra : Option Addr) (RN rc : Nat), Below w.heap.size w u → Calls Tryz.prog 73 #[.pointer (some ⟨tb, 0, none⟩), .slice ra RN rc] u fun e w' => e = .returned (.bool false) ∧ Below u.heap.size u w')
    (kind : Int) (tbl : ByteArray) (to row : Value) (ix : ByteArray) (lim : Int) (ht : ∃ a m c, to = .slice a m c) (hr : ∃ a m c, row = .slice a m c) :
    Calls Tryz.prog 42 #[.pointer (some ⟨tb, 0, none⟩), opA kind tbl keyv to row ix (at0 : Int) n lim] w (AddR kcols R (r.vs.set at0 ⟨2, S, ⟨#[]⟩⟩) K w) := by
  obtain ⟨k1, k2, k3, rfl⟩ := hr
  obtain ⟨t1, t2, t3, rfl⟩ := ht
  have HU : Hid (∀ u, Below w.heap.size w u → Below w0.heap.size w0 u) := fun u hu => hb.trans (hu.mono hb.size)
  have HI : Hid (∀ u, Below w.heap.size w u → Calls Tryz.prog 54 #[.pointer (some ⟨tb, 0, none⟩), keyv] u fun e w' => e = .returned (.bool true) ∧ Below u.heap.size u w') := fun u hu => isKey_yes h hM.cs hv hl hlk ho u (HU.out u hu)
  have HMr : Hid (∀ u, Below w.heap.size w u → Calls Tryz.prog 64 #[.pointer (some ⟨tb, 0, none⟩), .int .i64 (at0 : Int)] u fun e w' => e = .returned (.bool true) ∧ w' = u) := fun u hu => mayRise_yes h at0 nm hk hc u (HU.out u hu)
  have HRo : Hid (∀ u, Below w.heap.size w u → Calls Tryz.prog 58 #[.pointer (some ⟨tb, 0, none⟩), keyv] u fun e w' => e = .returned (.slice (some ⟨r.g, 0, none⟩) r.vs.length r.c) ∧ Below u.heap.size u w') := fun u hu => by
    have := rowOf_any h hM hv hlc ho.ok hm u (HU.out u hu)
    rw [hro] at this
    exact this
  have HAd : Hid (∀ u, Calls Tryz.prog 65 #[vagg 2 x ⟨#[]⟩, vagg 2 n ⟨#[]⟩] u fun e w' => e = .returned (.tuple #[vagg 2 S ⟨#[]⟩, .int .i64 0]) ∧ Below u.heap.size u w') := fun u => by
    have := vAdd_any x n hx64 hn64 u
    have hf : in64 S = true := in64_iff.2 hS
    unfold addV addE at this
    rw [hSd, if_pos hf, if_pos hf] at this
    exact this
  have hne : r.vs ≠ [] := fun e => by rw [e] at hx; simp at hx
  have oks : ∀ y ∈ r.vs.set at0 ⟨2, S, ⟨#[]⟩⟩, OkV y := fun y hy => by
    rcases List.mem_or_eq_of_mem_set hy with hy | rfl
    · exact hrow.2 y hy
    · exact Or.inr (Or.inl ⟨rfl, rfl⟩)
  have HCl : Hid (∀ u, Below w.heap.size w u → Calls Tryz.prog 43 #[.slice (some ⟨r.g, 0, none⟩) r.vs.length r.c] u fun e w' => ∃ g c, e = .returned (.slice (some ⟨g, 0, none⟩) r.vs.length c) ∧ Hid (VRow w' u.heap.size g r.vs.length c r.vs) ∧ Hid (Below u.heap.size u w')) := fun u hu => cloneV_any r.val r.vs u w0 (HU.out u hu) hrow.1 hne (by omega)
  have HWt : Hid (∀ (u : World) (nv : Value), Below w.heap.size w u → SliceAt u nv 4 enV (r.vs.set at0 ⟨2, S, ⟨#[]⟩⟩) → Calls Tryz.prog 57 #[.pointer (some ⟨tb, 0, none⟩), nv] u (WrR kcols R (r.vs.set at0 ⟨2, S, ⟨#[]⟩⟩) K u)) := fun u nv hu hs => by
    have hu0 := HU.out u hu
    obtain ⟨na, nc, rfl⟩ := hs.keyN
    exact write_ok (h.below hu0) (hM.below hu0) hs oks (by simp [hne]) (by simp; omega) K hK (by simp; omega) hKc hmo hfew u (Below.refl _ _) (fun v hv => hcl v _ _ _ (hu.trans (hv.mono hu.size)))
  have HRx : Hid (r.vs[at0]? = some ⟨2, x, ⟨#[]⟩⟩) := hx
  have HRL0 : (r.vs.set at0 ⟨2, S, ⟨#[]⟩⟩).length = r.vs.length := by simp
  obtain ⟨oa, on, oc, hopt, -⟩ := opt_shape (rowOf kcols R ((r.vs.set at0 ⟨2, S, ⟨#[]⟩⟩).take K))
  obtain ⟨va, vc, rfl⟩ := hv.keyN
  obtain ⟨KN, hKN⟩ : ∃ N, key.length = N := ⟨_, rfl⟩
  rw [hKN] at HI HRo ⊢
  obtain ⟨w2, xb, HE⟩ := ent_of w kind tbl (.slice va KN vc) (.slice t1 t2 t3) (.slice k1 k2 k3) ix (at0 : Int) n lim
  have HH : Hid (Ent w w2 xb kind tbl (.slice va KN vc) (.slice t1 t2 t3) (.slice k1 k2 k3) ix (at0 : Int) n lim) := HE
  obtain ⟨ra, rcc, er, rl1, rl2, hcell⟩ := hrow.1.vals
  have hatl := (List.getElem?_eq_some_iff.1 hx).1
  have HRc : Hid (∀ u, Below w2.heap.size w2 u → u.cell? ⟨r.g, at0 * 4, none⟩ = some (.int .i64 2) ∧ u.cell? ⟨r.g, at0 * 4 + 1, none⟩ = some (.int .i64 x) ∧ u.cell? ⟨r.g, at0 * 4 + 2, none⟩ = some (.complex .f64 0 0) ∧ u.cell? ⟨r.g, at0 * 4 + 3, none⟩ = some (.string ⟨#[]⟩) ∧ r.g < u.heap.size) := fun u hu => by
    obtain ⟨b, off, e1, q4, q⟩ := hcell u (HU.out u (HE.up hu)) at0 _ hx
    rw [e1] at er
    unfold Rw.val at er
    injection er with e2
    injection e2 with e3
    injection e3 with e4 e5
    subst e4; subst e5
    simp only [Nat.zero_add] at q
    exact ⟨q.1, q.2.1, q.2.2.1, q.2.2.2, q4⟩
  have hcm : r.c ≤ 9223372036854775807 ∧ r.vs.length ≤ r.c := by
    unfold Rw.val at er
    injection er with e2 e3 e4
    subst e4
    unfold maxLen at rl2
    exact ⟨rl2, rl1⟩
  obtain ⟨hcm1, hcm2⟩ := hcm
  have HS : Hid (∀ u, Below w2.heap.size w2 u → u.cell? ⟨xb, 2, none⟩ = some (.slice va KN vc) ∧ u.cell? ⟨xb, 6, none⟩ = some (.int .i64 (at0 : Int)) ∧ u.cell? ⟨xb, 7, none⟩ = some (.int .i64 n) ∧ xb + 1 < u.heap.size) := fun u hu => by
    obtain ⟨q1, _, _, q2, q3, _⟩ := HE.cells hu
    exact ⟨q1, q2, q3, (HE.eff hu).2.2.2.2.1⟩
  obtain ⟨rg, rc, rvs⟩ := r
  dsimp only at HRo HRc hatl hcm1 hcm2 h32 HCl HWt HRx HRL0 hopt
  unfold AddR
  dsimp only
  obtain ⟨M, hM'⟩ : ∃ M, rvs.length = M := ⟨_, rfl⟩
  rw [hM'] at HRo hatl hcm2 h32 HCl HRL0
  have HRL : Hid ((rvs.set at0 ⟨2, S, ⟨#[]⟩⟩).length = M) := HRL0
  have HOpt : Hid (optV (rowOf kcols R ((rvs.set at0 ⟨2, S, ⟨#[]⟩⟩).take K)) = .slice oa on oc) := hopt
  rw [HRL0, hopt]
  have hatI : (at0 : Int) < (M : Int) := by omega
  obtain ⟨a0, a1, a2, a3⟩ := HS.out w2 (Below.refl _ _)
  have hw2 := HE.eq
  have hxb := HE.at_
  have hnil := fun (u : World) (a : Option Addr) (n c : Nat) => Lib.run_eql_slice_nil (P := Tryz.prog) u 37 36 a n c 0 0 Tryz.underlying37
  have hsl := @store_law
  clear h hM hv hl hlk hlc ho hm hb hKN HE hcell er rl1 rl2 hx hro hrow hM' hS hSd hx64 hn64 hk hc HU hne oks hcl hmo HRL0 hopt hK hKr hKc
  go_enter Tryz.func42, Tryz.ntmps42
  go_wp2_with (first
    | (go_at_call 54; go_must (refine (HI.out _ HH.out.below).mono ?_; rintro e w3 ⟨rfl, h3⟩; obtain ⟨b0, b1, b2, b3⟩ := HS.out w3 h3))
    | (go_at_call 64; go_must (refine (HMr.out _ (HH.out.up h3)).mono ?_; rintro e w4 ⟨rfl, hw4⟩; obtain rfl := hw4.symm))
    | (go_at_call 58; go_must (refine (HRo.out _ (HH.out.up h3)).mono ?_; rintro e w5 ⟨rfl, h5⟩; obtain ⟨c0, c1, c2, c3⟩ := HS.out w5 (h3.trans (h5.mono h3.size)); obtain ⟨r0, r1, r2, r3, r4⟩ := HRc.out w5 (h3.trans (h5.mono h3.size)))))
  have H5 : Hid (Below w2.heap.size w2 w5) := h3.trans (h5.mono h3.size)
  have HX : Hid (∀ u, Below w5.heap.size w5 u → Below w2.heap.size w2 u ∧ u.cell? ⟨xb, 6, none⟩ = some (.int .i64 (at0 : Int)) ∧ u.cell? ⟨xb, 7, none⟩ = some (.int .i64 n) ∧ u.cell? ⟨rg, at0 * 4, none⟩ = some (.int .i64 2) ∧ u.cell? ⟨rg, at0 * 4 + 1, none⟩ = some (.int .i64 x) ∧ u.cell? ⟨rg, at0 * 4 + 2, none⟩ = some (.complex .f64 0 0) ∧ u.cell? ⟨rg, at0 * 4 + 3, none⟩ = some (.string ⟨#[]⟩)) := fun u hu => by
    have k := H5.out.trans (hu.mono H5.out.size)
    obtain ⟨q1, q2, q3, q4⟩ := HS.out u k
    obtain ⟨p1, p2, p3, p4, p5⟩ := HRc.out u k
    exact ⟨k, q2, q3, p1, p2, p3, p4⟩
  clear h3 h5
  obtain ⟨sb, hsb⟩ : ∃ sb, w5.heap.size = sb := ⟨_, rfl⟩
  have hrs : rg < sb := by omega
  have hxs : xb + 1 < sb := by omega
  have hn1 : ¬ (xb = sb) := by omega
  have hn2 : ¬ (sb = xb) := by omega
  have hn3 : ¬ (rg = sb) := by omega
  have hn4 : ¬ (sb = rg) := by omega
  have hn5 : ¬ (xb + 1 = sb) := by omega
  have hn6 : ¬ (sb = xb + 1) := by omega
  have HA1 : Hid (Calls Tryz.prog 65 #[vagg 2 x ⟨#[]⟩, vagg 2 n ⟨#[]⟩] w5.drew fun e w' => e = .returned (.tuple #[vagg 2 S ⟨#[]⟩, .int .i64 0]) ∧ Hid (Below w5.heap.size w5 w') ∧ w'.cell? ⟨xb, 6, none⟩ = some (.int .i64 (at0 : Int)) ∧ w'.cell? ⟨xb, 7, none⟩ = some (.int .i64 n) ∧ w'.cell? ⟨rg, at0 * 4, none⟩ = some (.int .i64 2) ∧ w'.cell? ⟨rg, at0 * 4 + 1, none⟩ = some (.int .i64 x) ∧ w'.cell? ⟨rg, at0 * 4 + 2, none⟩ = some (.complex .f64 0 0) ∧ w'.cell? ⟨rg, at0 * 4 + 3, none⟩ = some (.string ⟨#[]⟩)) := (HAd.out _).mono fun e w' ⟨e1, e2⟩ => by
    have k := (bl_drew (Below.refl _ w5)).trans e2
    exact ⟨e1, k, (HX.out w' k).2⟩
  have HA2 : Hid (Calls Tryz.prog 65 #[vagg 2 x ⟨#[]⟩, vagg 2 n ⟨#[]⟩] (w5.alloc (vobj 0 0 ⟨#[]⟩)).drew fun e w' => e = .returned (.tuple #[vagg 2 S ⟨#[]⟩, .int .i64 0]) ∧ Hid (Below w5.heap.size w5 w') ∧ (w'.cell? ⟨xb, 6, none⟩ = some (.int .i64 (at0 : Int)) ∧ w'.cell? ⟨xb, 7, none⟩ = some (.int .i64 n) ∧ w'.cell? ⟨rg, at0 * 4, none⟩ = some (.int .i64 2) ∧ w'.cell? ⟨rg, at0 * 4 + 1, none⟩ = some (.int .i64 x) ∧ w'.cell? ⟨rg, at0 * 4 + 2, none⟩ = some (.complex .f64 0 0) ∧ w'.cell? ⟨rg, at0 * 4 + 3, none⟩ = some (.string ⟨#[]⟩)) ∧ BoxV w' sb 0 0 ⟨#[]⟩ ∧ sb < w'.heap.size ∧ (∀ i, w'.frozen? ⟨sb, i, none⟩ = false) ∧ Hid (w'.heap[sb]? = some (vobj 0 0 ⟨#[]⟩))) := (HAd.out _).mono fun e w' ⟨e1, e2⟩ => by
    have k0 := bl_drew (bl_alloc (Below.refl _ w5) (vobj 0 0 ⟨#[]⟩))
    have k := k0.trans (e2.mono k0.size)
    have e := heap_new w5 (vobj 0 0 ⟨#[]⟩)
    rw [hsb] at e
    have e' : w'.heap[sb]? = some (vobj 0 0 ⟨#[]⟩) := (e2.block sb (lt_of e)).trans e
    exact ⟨e1, k, (HX.out w' k).2, boxV_of e', lt_of e', frozen_of e', e'⟩
  go_region_held3 (fun u => u.cell? ⟨xb, 6, none⟩ = some (.int .i64 (at0 : Int)) ∧ u.cell? ⟨xb, 7, none⟩ = some (.int .i64 n) ∧ u.cell? ⟨rg, at0 * 4, none⟩ = some (.int .i64 2) ∧ u.cell? ⟨rg, at0 * 4 + 1, none⟩ = some (.int .i64 x) ∧ u.cell? ⟨rg, at0 * 4 + 2, none⟩ = some (.complex .f64 0 0) ∧ u.cell? ⟨rg, at0 * 4 + 3, none⟩ = some (.string ⟨#[]⟩)) (go_keep)
    (first
      | (go_at_call 65; refine HA1.out.mono ?_; rintro e w6 ⟨rfl, H6, e0, e1, e2, e3, e4, e5⟩)
      | (go_at_call 65; refine HA2.out.mono ?_; rintro e w6 ⟨rfl, H6, ⟨e0, e1, e2, e3, e4, e5⟩, ⟨f0, f1, f2, f3⟩, f4, f5, HQ⟩))
  · obtain ⟨q, hq⟩ : ∃ q, w6.heap.size = q := ⟨_, rfl⟩
    obtain ⟨U, hU⟩ : ∃ U, w6.alloc (vobj 2 S ⟨#[]⟩) = U := ⟨_, rfl⟩
    have hUq : U.heap[q]? = some (vobj 2 S ⟨#[]⟩) := by rw [← hU, ← hq]; exact heap_new w6 _
    have HBU : Hid (Below w5.heap.size w5 U) := by show Below _ _ _; rw [← hU]; exact bl_alloc H6.out _
    rw [hU, hq]
    clear hU hq H6 e0 e1 e2 e3 e4 e5
    have HU2 : Hid (Below w2.heap.size w2 U) := H5.out.trans (HBU.out.mono H5.out.size)
    have hql := lt_of hUq
    have HQx : Hid (∀ u, Below U.heap.size U u → BoxV u q 2 S ⟨#[]⟩ ∧ q < u.heap.size ∧ u.cell? ⟨xb, 6, none⟩ = some (.int .i64 (at0 : Int)) ∧ Below w2.heap.size w2 u) := fun u hu => by
      have k := HU2.out.trans (hu.mono HU2.out.size)
      exact ⟨boxV_of ((hu.block q hql).trans hUq), Nat.lt_of_lt_of_le hql hu.size, (HS.out u k).2.1, k⟩
    have HCu : Hid (Calls Tryz.prog 43 #[.slice (some ⟨rg, 0, none⟩) M rc] U fun e w' => ∃ g c, e = .returned (.slice (some ⟨g, 0, none⟩) M c) ∧ Hid (VRow w' U.heap.size g M c rvs) ∧ Hid (Below U.heap.size U w')) := HCl.out U (HH.out.up HU2.out)
    go_wp2_with fail
    refine HCu.out.mono ?_
    rintro e w7 ⟨g, c, rfl, HV7, HB7⟩
    obtain ⟨⟨p0, p1, p2, p3⟩, pl, p6, -⟩ := HQx.out w7 HB7.out
    obtain ⟨r0, r1, r2, r3⟩ := HV7.out.cells HRx.out
    have hgl := HV7.out.lt.2
    have hfz : ∀ i, w7.frozen? ⟨g, i, none⟩ = false := by obtain ⟨cur, _, k3, _⟩ := HV7.out; exact frozen_of k3
    have hgc : M ≤ c ∧ c ≤ 9223372036854775807 := by obtain ⟨_, _, _, q1, q2, _⟩ := HV7.out; unfold maxLen at q2; exact ⟨q1, q2⟩
    obtain ⟨hgc1, hgc2⟩ := hgc
    obtain ⟨W, hW⟩ : ∃ W, setV w7 g (at0 * 4) 2 S ⟨#[]⟩ = W := ⟨_, rfl⟩
    have HBW : Hid (Below w2.heap.size w2 W) := by
      have k7 := (HQx.out w7 HB7.out).2.2.2
      have hg := HV7.out.lt.1
      have := HU2.out.size
      show Below _ _ _
      rw [← hW]
      exact turn_new k7 (by omega) (setV_turn w7 g (at0 * 4) 2 S ⟨#[]⟩)
    have HVW : Hid (SliceAt W (.slice (some ⟨g, 0, none⟩) M c) 4 enV (rvs.set at0 ⟨2, S, ⟨#[]⟩⟩)) := by show SliceAt _ _ _ _ _; rw [← hW]; exact (HV7.out.setV hatl 2 S ⟨#[]⟩).slice
    have HWr : Hid (Calls Tryz.prog 57 #[.pointer (some ⟨tb, 0, none⟩), .slice (some ⟨g, 0, none⟩) M c] W (WrR kcols R (rvs.set at0 ⟨2, S, ⟨#[]⟩⟩) K W)) := HWt.out W (.slice (some ⟨g, 0, none⟩) M c) (HH.out.up HBW.out) HVW.out
    unfold WrR at HWr
    rw [HRL.out, HOpt.out] at HWr
    unfold setV at hW
    go_wp2_with fail
    refine HWr.out.mono ?_
    rintro e w9 ⟨g2, c2, rfl, HV9, h9⟩
    have HB9 : Hid (Below w2.heap.size w2 w9) := HBW.out.trans (h9.mono HBW.out.size)
    obtain ⟨d0, d1, d2, d3, dl, dz⟩ := HH.out.eff HB9.out
    have hb' := HH.out.store HB9.out
    have HV9' : Hid (VRow w9 W.heap.size g2 M c2 (rvs.set at0 ⟨2, S, ⟨#[]⟩⟩)) := HV9
    have dl2 : xb < w9.heap.size := by omega
    have dl3 : xb + 1 < w9.heap.size + 1 := by omega
    have hq1 : ¬ (xb + 1 = w9.heap.size) := by omega
    have hq2 : ¬ (w9.heap.size = xb + 1) := by omega
    clear h9 HV9 hW r0 r1 r2 r3 p0 p1 p2 p3 p6 hfz
    go_wp2_with fail
    have e9 : w9.heap[xb + 1]? = some effZ := (HB9.out.block _ (lt_of HH.out.ef)).trans HH.out.ef
    have e4 := set4_heap e9 (.int .i64 0) (.slice (some ⟨w9.heap.size + 1, 0, none⟩) 1 1) (.slice oa on oc) (.slice (some ⟨g2, 0, none⟩) M c2)
    have hv4 := HH.out.kept HBW.out HV9'.out (.int .i64 0) (.slice (some ⟨w9.heap.size + 1, 0, none⟩) 1 1) (.slice oa on oc) (.slice (some ⟨g2, 0, none⟩) M c2)
    have hb4 := hb' (.int .i64 0) (.slice (some ⟨w9.heap.size + 1, 0, none⟩) 1 1) (.slice oa on oc) (.slice (some ⟨g2, 0, none⟩) M c2)
    have hs4 : (set4 w9 (xb + 1) (.int .i64 0) (.slice (some ⟨w9.heap.size + 1, 0, none⟩) 1 1) (.slice oa on oc) (.slice (some ⟨g2, 0, none⟩) M c2)).heap.size = w9.heap.size := by simp [set4]
    have ba : Below (set4 w9 (xb + 1) (.int .i64 0) (.slice (some ⟨w9.heap.size + 1, 0, none⟩) 1 1) (.slice oa on oc) (.slice (some ⟨g2, 0, none⟩) M c2)).heap.size (set4 w9 (xb + 1) (.int .i64 0) (.slice (some ⟨w9.heap.size + 1, 0, none⟩) 1 1) (.slice oa on oc) (.slice (some ⟨g2, 0, none⟩) M c2)) (((set4 w9 (xb + 1) (.int .i64 0) (.slice (some ⟨w9.heap.size + 1, 0, none⟩) 1 1) (.slice oa on oc) (.slice (some ⟨g2, 0, none⟩) M c2)).alloc (.cells #[.int .i64 0, .slice (some ⟨w9.heap.size + 1, 0, none⟩) 1 1, .slice oa on oc, .slice (some ⟨g2, 0, none⟩) M c2] 64)).alloc (.cells #[.slice (some ⟨g2, 0, none⟩) M c2] 37)) := bl_alloc ((Below.refl _ _).alloc (Nat.le_refl _) _) _
    have e5 := (ba.block _ (lt_of e4)).trans e4
    have htold := heap_new ((set4 w9 (xb + 1) (.int .i64 0) (.slice (some ⟨w9.heap.size + 1, 0, none⟩) 1 1) (.slice oa on oc) (.slice (some ⟨g2, 0, none⟩) M c2)).alloc (.cells #[.int .i64 0, .slice (some ⟨w9.heap.size + 1, 0, none⟩) 1 1, .slice oa on oc, .slice (some ⟨g2, 0, none⟩) M c2] 64)) (.cells #[.slice (some ⟨g2, 0, none⟩) M c2] 37)
    rw [World.size_alloc, hs4] at htold
    have hvz := hv4.below (ba.block g2 hv4.lt.2)
    have hbz := hb4.trans (ba.mono hb4.size)
    have f0 := (cell_of e5 0).trans rfl
    have f1 := (cell_of e5 1).trans rfl
    have f2 := (cell_of e5 2).trans rfl
    have f3 := (cell_of e5 3).trans rfl
    have hval : (⟨g2, c2, rvs.set at0 ⟨2, S, ⟨#[]⟩⟩⟩ : Rw).val = .slice (some ⟨g2, 0, none⟩) M c2 := by unfold Rw.val; rw [HRL.out]
    have hsl1 := sliceAt_flat (en := enR) (n := 1) (L := [(⟨g2, c2, rvs.set at0 ⟨2, S, ⟨#[]⟩⟩⟩ : Rw)]) (cap := 1) (fun _ => rfl) htold (by show [Value.slice (some ⟨g2, 0, none⟩) M c2] = [Rw.val _]; rw [hval]) (Nat.le_refl _) (by decide)
    unfold set4 at f0 f1 f2 f3 hvz hbz hsl1
    refine bodyPost_ret (by simp [results, Tryz.results42, go_sem, f0, f1, f2, f3]; rfl) rfl ?_
    exact ⟨w9.heap.size + 1, g2, c2, rfl, hvz, ⟨hsl1, by have := (HH.out.up HB9.out).size; omega⟩, hbz⟩
  · obtain ⟨U, hU⟩ : ∃ U, set4 w6 sb (.int .i64 2) (.int .i64 S) (.complex .f64 0 0) (.string ⟨#[]⟩) = U := ⟨_, rfl⟩
    have hUq : U.heap[sb]? = some (vobj 2 S ⟨#[]⟩) := by rw [← hU]; exact set4_heap HQ.out _ _ _ _
    have HBU : Hid (Below w5.heap.size w5 U) := by show Below _ _ _; rw [← hU]; exact turn_new H6.out (by omega) (set4_turn _ _ _ _ _ _)
    unfold set4 at hU
    rw [hU]
    obtain ⟨q, hq⟩ : ∃ q, sb = q := ⟨_, rfl⟩
    rw [hq] at hUq ⊢
    clear hU hq H6 HQ e0 e1 e2 e3 e4 e5 f0 f1 f2 f3 f4 f5
    have HU2 : Hid (Below w2.heap.size w2 U) := H5.out.trans (HBU.out.mono H5.out.size)
    have hql := lt_of hUq
    have HQx : Hid (∀ u, Below U.heap.size U u → BoxV u q 2 S ⟨#[]⟩ ∧ q < u.heap.size ∧ u.cell? ⟨xb, 6, none⟩ = some (.int .i64 (at0 : Int)) ∧ Below w2.heap.size w2 u) := fun u hu => by
      have k := HU2.out.trans (hu.mono HU2.out.size)
      exact ⟨boxV_of ((hu.block q hql).trans hUq), Nat.lt_of_lt_of_le hql hu.size, (HS.out u k).2.1, k⟩
    have HCu : Hid (Calls Tryz.prog 43 #[.slice (some ⟨rg, 0, none⟩) M rc] U fun e w' => ∃ g c, e = .returned (.slice (some ⟨g, 0, none⟩) M c) ∧ Hid (VRow w' U.heap.size g M c rvs) ∧ Hid (Below U.heap.size U w')) := HCl.out U (HH.out.up HU2.out)
    go_wp2_with fail
    refine HCu.out.mono ?_
    rintro e w7 ⟨g, c, rfl, HV7, HB7⟩
    obtain ⟨⟨p0, p1, p2, p3⟩, pl, p6, -⟩ := HQx.out w7 HB7.out
    obtain ⟨r0, r1, r2, r3⟩ := HV7.out.cells HRx.out
    have hgl := HV7.out.lt.2
    have hfz : ∀ i, w7.frozen? ⟨g, i, none⟩ = false := by obtain ⟨cur, _, k3, _⟩ := HV7.out; exact frozen_of k3
    have hgc : M ≤ c ∧ c ≤ 9223372036854775807 := by obtain ⟨_, _, _, q1, q2, _⟩ := HV7.out; unfold maxLen at q2; exact ⟨q1, q2⟩
    obtain ⟨hgc1, hgc2⟩ := hgc
    obtain ⟨W, hW⟩ : ∃ W, setV w7 g (at0 * 4) 2 S ⟨#[]⟩ = W := ⟨_, rfl⟩
    have HBW : Hid (Below w2.heap.size w2 W) := by
      have k7 := (HQx.out w7 HB7.out).2.2.2
      have hg := HV7.out.lt.1
      have := HU2.out.size
      show Below _ _ _
      rw [← hW]
      exact turn_new k7 (by omega) (setV_turn w7 g (at0 * 4) 2 S ⟨#[]⟩)
    have HVW : Hid (SliceAt W (.slice (some ⟨g, 0, none⟩) M c) 4 enV (rvs.set at0 ⟨2, S, ⟨#[]⟩⟩)) := by show SliceAt _ _ _ _ _; rw [← hW]; exact (HV7.out.setV hatl 2 S ⟨#[]⟩).slice
    have HWr : Hid (Calls Tryz.prog 57 #[.pointer (some ⟨tb, 0, none⟩), .slice (some ⟨g, 0, none⟩) M c] W (WrR kcols R (rvs.set at0 ⟨2, S, ⟨#[]⟩⟩) K W)) := HWt.out W (.slice (some ⟨g, 0, none⟩) M c) (HH.out.up HBW.out) HVW.out
    unfold WrR at HWr
    rw [HRL.out, HOpt.out] at HWr
    unfold setV at hW
    go_wp2_with fail
    refine HWr.out.mono ?_
    rintro e w9 ⟨g2, c2, rfl, HV9, h9⟩
    have HB9 : Hid (Below w2.heap.size w2 w9) := HBW.out.trans (h9.mono HBW.out.size)
    obtain ⟨d0, d1, d2, d3, dl, dz⟩ := HH.out.eff HB9.out
    have hb' := HH.out.store HB9.out
    have HV9' : Hid (VRow w9 W.heap.size g2 M c2 (rvs.set at0 ⟨2, S, ⟨#[]⟩⟩)) := HV9
    have dl2 : xb < w9.heap.size := by omega
    have dl3 : xb + 1 < w9.heap.size + 1 := by omega
    have hq1 : ¬ (xb + 1 = w9.heap.size) := by omega
    have hq2 : ¬ (w9.heap.size = xb + 1) := by omega
    clear h9 HV9 hW r0 r1 r2 r3 p0 p1 p2 p3 p6 hfz
    go_wp2_with fail
    have e9 : w9.heap[xb + 1]? = some effZ := (HB9.out.block _ (lt_of HH.out.ef)).trans HH.out.ef
    have e4 := set4_heap e9 (.int .i64 0) (.slice (some ⟨w9.heap.size + 1, 0, none⟩) 1 1) (.slice oa on oc) (.slice (some ⟨g2, 0, none⟩) M c2)
    have hv4 := HH.out.kept HBW.out HV9'.out (.int .i64 0) (.slice (some ⟨w9.heap.size + 1, 0, none⟩) 1 1) (.slice oa on oc) (.slice (some ⟨g2, 0, none⟩) M c2)
    have hb4 := hb' (.int .i64 0) (.slice (some ⟨w9.heap.size + 1, 0, none⟩) 1 1) (.slice oa on oc) (.slice (some ⟨g2, 0, none⟩) M c2)
    have hs4 : (set4 w9 (xb + 1) (.int .i64 0) (.slice (some ⟨w9.heap.size + 1, 0, none⟩) 1 1) (.slice oa on oc) (.slice (some ⟨g2, 0, none⟩) M c2)).heap.size = w9.heap.size := by simp [set4]
    have ba : Below (set4 w9 (xb + 1) (.int .i64 0) (.slice (some ⟨w9.heap.size + 1, 0, none⟩) 1 1) (.slice oa on oc) (.slice (some ⟨g2, 0, none⟩) M c2)).heap.size (set4 w9 (xb + 1) (.int .i64 0) (.slice (some ⟨w9.heap.size + 1, 0, none⟩) 1 1) (.slice oa on oc) (.slice (some ⟨g2, 0, none⟩) M c2)) (((set4 w9 (xb + 1) (.int .i64 0) (.slice (some ⟨w9.heap.size + 1, 0, none⟩) 1 1) (.slice oa on oc) (.slice (some ⟨g2, 0, none⟩) M c2)).alloc (.cells #[.int .i64 0, .slice (some ⟨w9.heap.size + 1, 0, none⟩) 1 1, .slice oa on oc, .slice (some ⟨g2, 0, none⟩) M c2] 64)).alloc (.cells #[.slice (some ⟨g2, 0, none⟩) M c2] 37)) := bl_alloc ((Below.refl _ _).alloc (Nat.le_refl _) _) _
    have e5 := (ba.block _ (lt_of e4)).trans e4
    have htold := heap_new ((set4 w9 (xb + 1) (.int .i64 0) (.slice (some ⟨w9.heap.size + 1, 0, none⟩) 1 1) (.slice oa on oc) (.slice (some ⟨g2, 0, none⟩) M c2)).alloc (.cells #[.int .i64 0, .slice (some ⟨w9.heap.size + 1, 0, none⟩) 1 1, .slice oa on oc, .slice (some ⟨g2, 0, none⟩) M c2] 64)) (.cells #[.slice (some ⟨g2, 0, none⟩) M c2] 37)
    rw [World.size_alloc, hs4] at htold
    have hvz := hv4.below (ba.block g2 hv4.lt.2)
    have hbz := hb4.trans (ba.mono hb4.size)
    have f0 := (cell_of e5 0).trans rfl
    have f1 := (cell_of e5 1).trans rfl
    have f2 := (cell_of e5 2).trans rfl
    have f3 := (cell_of e5 3).trans rfl
    have hval : (⟨g2, c2, rvs.set at0 ⟨2, S, ⟨#[]⟩⟩⟩ : Rw).val = .slice (some ⟨g2, 0, none⟩) M c2 := by unfold Rw.val; rw [HRL.out]
    have hsl1 := sliceAt_flat (en := enR) (n := 1) (L := [(⟨g2, c2, rvs.set at0 ⟨2, S, ⟨#[]⟩⟩⟩ : Rw)]) (cap := 1) (fun _ => rfl) htold (by show [Value.slice (some ⟨g2, 0, none⟩) M c2] = [Rw.val _]; rw [hval]) (Nat.le_refl _) (by decide)
    unfold set4 at f0 f1 f2 f3 hvz hbz hsl1
    refine bodyPost_ret (by simp [results, Tryz.results42, go_sem, f0, f1, f2, f3]; rfl) rfl ?_
    exact ⟨w9.heap.size + 1, g2, c2, rfl, hvz, ⟨hsl1, by have := (HH.out.up HB9.out).size; omega⟩, hbz⟩
end

end Go.Proofs.YtfddmibaojfalaaGreat
