/- AuthPlays: the law's walk, the document's table beside the program's. (Written by uplays.py.) -/
import Derived.Test.YtibglhlhogfdnaaDoorUTexts
import Derived.Deep.RegionHeld3
namespace Go.Proofs.YtibglhlhogfdnaaDoor
open Go.RowKit QP AP

section
variable {I J : World → (Nat → Prop) → Prop} {w wr w' : World} {L : List (Nat × Obj)}

theorem Stand.callL (hJ : Res J) (h : Stand (Sep I J) w wr L) : ∃ A, I wr A ∧ ∀ w' I', Goes I' wr w' A → Stand (Sep I' J) w w' L := by
  obtain ⟨F, ⟨A, B, k1, k2, k3, k4, k5, k6⟩, h2, h3, h4, h5⟩ := h
  refine ⟨A, k1, fun w' I' hg => ?_⟩
  obtain ⟨A2, g1, g2, g3⟩ := hg
  refine ⟨fun i => A2 i ∨ B i, ⟨A2, B, g1, hJ.kept k2 g2 (fun i hi hA => k3 i hA hi), fun i hi hB => ?_, fun _ hi => Or.inl hi, fun _ hi => Or.inr hi, fun _ hi => hi⟩, fun i hi => ?_, fun p hp hF => ?_, fun p hp => ⟨(g2.block p.1 (lt_of (h4 p hp).1) (fun hA => h3 p hp (k4 _ hA))).trans (h4 p hp).1, (h4 p hp).2⟩, h5.trans ((g2.mono (fun i hi => h2 i (k4 i hi))).toBelow h5.size)⟩
  · rcases g3 i hi with h | h
    · exact k3 i h hB
    · have := hJ.lt k2 i hB; omega
  · rcases hi with hi | hi
    · rcases g3 i hi with h | h
      · exact h2 i (k4 i h)
      · exact Nat.le_trans h5.size h
    · exact h2 i (k5 i hi)
  · rcases hF with hF | hF
    · rcases g3 _ hF with h | h
      · exact h3 p hp (k4 _ h)
      · have := lt_of (h4 p hp).1; omega
    · exact h3 p hp (k5 _ hF)
theorem Stand.swap (h : Stand (Sep I J) w wr L) : Stand (Sep J I) w wr L := by
  obtain ⟨F, h1, h2⟩ := h
  exact ⟨F, h1.swap, h2⟩
theorem Stand.callR (hI : Res I) (h : Stand (Sep I J) w wr L) : ∃ A, J wr A ∧ ∀ w' J', Goes J' wr w' A → Stand (Sep I J') w w' L := by
  obtain ⟨A, h1, h2⟩ := Stand.callL hI h.swap
  exact ⟨A, h1, fun w' J' hg => (h2 w' J' hg).swap⟩
/-- a second object, made now -/
theorem Stand.also (R : Res I) (h : Stand I w wr L) {A : Nat → Prop} (h2 : J w' A) (h3 : ∀ i, A i → wr.heap.size ≤ i) (h4 : Below wr.heap.size wr w') : Stand (Sep I J) w w' L := by
  obtain ⟨F, x1, x2, x3, x4, x5⟩ := h
  refine ⟨fun i => F i ∨ A i, Sep.mk (R.kept (S := fun _ => False) x1 (Turn.ofBelow _ h4) (fun _ _ h => h)) h2 (fun i hi hA => ?_), fun i hi => ?_, fun p hp hF => ?_, fun p hp => ⟨(h4.block p.1 (lt_of (x4 p hp).1)).trans (x4 p hp).1, (x4 p hp).2⟩, x5.trans (h4.mono x5.size)⟩
  · have := R.lt x1 i hi
    have := h3 i hA
    omega
  · rcases hi with h | h
    · exact x2 i h
    · exact Nat.le_trans x5.size (h3 i h)
  · rcases hF with h | h
    · exact x3 p hp h
    · have := h3 _ h
      have := lt_of (x4 p hp).1
      omega
end

/-- a call of the law's -/
structure ActV where
  kind : Int
  name : ByteArray
  key : ByteArray
  text : ByteArray
  draw : Nat
  num : Int
def ActV.en (a : ActV) : List Value := [.int .i64 a.kind, .string a.name, .string a.key, .string a.text, .int .u64 (a.draw : Int), .int .i64 a.num]

theorem among_num (x n : Int) (_hn : 1 ≤ n) : (x.tmod n + n) % n = x % n := by
  have h3 : x.tmod n = x % n ∨ x.tmod n = x % n - n := by
    rw [Int.tmod_eq_emod]
    split
    · left; omega
    · right; omega
  rcases h3 with e | e
  · rw [e, Int.add_emod_right, Int.emod_emod]
  · rw [e, show x % n - n + n = x % n from by omega, Int.emod_emod]
set_option maxHeartbeats 400000 in
theorem among_any (x n : Int) (w : World) (hn : 1 ≤ n) (hn2 : n ≤ 1000) :
    Calls Tryd.prog 11 #[.int .i64 x, .int .i64 n] w fun e w' => e = .returned (.int .i64 (x % n)) ∧ w = w' := by
  have hl : -n < x.tmod n ∧ x.tmod n < n := ⟨Int.lt_tmod_of_pos x (by omega), Int.tmod_lt_of_pos x (by omega)⟩
  have h1 := hl.1
  have h2 := hl.2
  have HN : Hid ((x.tmod n + n) % n = x % n) := among_num x n hn
  have hz : (n == 0) = false := by rw [beq_eq_false_iff_ne]; omega
  clear hl
  go_enter Tryd.func11, Tryd.ntmps11
  go_wp2
  go_ret
  exact ⟨ret_int HN.out, rfl⟩

theorem namesOf_len (K : List Kv) : (namesOf K).length = K.length := by simp [namesOf]
section
variable {T : KitA} {g r : Nat} {K M : List Kv} {w wr : World} {L : List (Nat × Obj)}
/-- the program's table, and the document's -/
abbrev Pair (T : KitA) (g : Nat) (K : List Kv) (r : Nat) (M : List Kv) : World → (Nat → Prop) → Prop := Sep (T.I g K) (RI r M)
theorem pair_res : Res (Pair T g K r M) := Sep.res (T.res g K) (ri_res r M)
theorem pput (hw : T.Ok w) (h : Stand (Pair T g K r M) w wr L) (n k : ByteArray) (hn : n.size ≤ 10000) (hk : k.size ≤ 10000) : Calls Tryd.prog 12 #[.pointer (some ⟨g, 0, none⟩), .string n, .string k] wr fun e w' => e = .returned (.int .i64 (putE K n k)) ∧ Stand (Pair T g (putK K n k) r M) w w' L := by
  obtain ⟨A, h1, h2⟩ := Stand.callL (ri_res r M) h
  exact (T.put g K n k wr A (T.okAt hw h) h1 (by omega) (by omega)).mono fun _ _ x => ⟨x.1, h2 _ _ x.2⟩
theorem ptake (hw : T.Ok w) (h : Stand (Pair T g K r M) w wr L) (n : ByteArray) (hn : n.size ≤ 10000) : Calls Tryd.prog 14 #[.pointer (some ⟨g, 0, none⟩), .string n] wr fun e w' => e = .returned (.int .i64 (takeE K n)) ∧ Stand (Pair T g (delK n K) r M) w w' L := by
  obtain ⟨A, h1, h2⟩ := Stand.callL (ri_res r M) h
  exact (T.take g K n wr A (T.okAt hw h) h1 (by omega)).mono fun _ _ x => ⟨x.1, h2 _ _ x.2⟩
theorem pcheck (hw : T.Ok w) (h : Stand (Pair T g K r M) w wr L) (n c p : ByteArray) (hn : n.size ≤ 10000) (hc : c.size ≤ 10000) (hp : p.size ≤ 10000) : Calls Tryd.prog 18 #[.pointer (some ⟨g, 0, none⟩), .string n, .string c, .string p] wr fun e w' => e = .returned (.int .i64 (checkE K n c p)) ∧ Stand (Pair T g K r M) w w' L := by
  obtain ⟨A, h1, h2⟩ := Stand.callL (ri_res r M) h
  exact (T.check g K n c p wr A (T.okAt hw h) h1 hn hc (by omega)).mono fun _ _ x => ⟨x.1, h2 _ _ x.2⟩
theorem qput (h : Stand (Pair T g K r M) w wr L) (n k : ByteArray) (hn : n.size ≤ 10000) : Calls Tryd.prog 13 #[.pointer (some ⟨r, 0, none⟩), .string n, .string k] wr fun e w' => e = .returned (.int .i64 (putE M n k)) ∧ Stand (Pair T g K r (putK M n k)) w w' L := by
  obtain ⟨A, h1, h2⟩ := Stand.callR (T.res g K) h
  exact (rput_any h1 (by unfold maxLen; omega) k).mono fun _ _ x => ⟨x.1, h2 _ _ x.2⟩
theorem qtake (h : Stand (Pair T g K r M) w wr L) (n : ByteArray) : Calls Tryd.prog 15 #[.pointer (some ⟨r, 0, none⟩), .string n] wr fun e w' => e = .returned (.int .i64 (takeE M n)) ∧ Stand (Pair T g K r (delK n M)) w w' L := by
  obtain ⟨A, h1, h2⟩ := Stand.callR (T.res g K) h
  exact (rtake_any h1 n).mono fun _ _ x => ⟨x.1, h2 _ _ x.2⟩
theorem qcheck (h : Stand (Pair T g K r M) w wr L) (hz : ∀ p ∈ M, p.2.size ≤ 100) (n c p : ByteArray) (hn : n.size ≤ 10000) (hc : c.size ≤ 10000) : Calls Tryd.prog 19 #[.pointer (some ⟨r, 0, none⟩), .string n, .string c, .string p] wr fun e w' => e = .returned (.int .i64 (checkE M n c p)) ∧ Stand (Pair T g K r M) w w' L := by
  obtain ⟨A, h1, h2⟩ := Stand.callR (T.res g K) h
  exact (rcheck_any h1 hz n c p hn hc).mono fun _ _ x => ⟨x.1, h2 _ _ x.2⟩
/-- the names that the program tells; the document's rows are as they were -/
theorem pnames (hw : T.Ok w) (h : Stand (Pair T g K r M) w wr L) : Calls Tryd.prog 21 #[.pointer (some ⟨g, 0, none⟩)] wr fun e w' => ∃ a c, e = .returned (.slice a (namesOf K).length c) ∧ SliceAt w' (.slice a (namesOf K).length c) 1 enS (namesOf K) ∧ Stand (Pair T g K r M) w w' L ∧ w'.cell? ⟨r, 0, none⟩ = wr.cell? ⟨r, 0, none⟩ := by
  have hok := T.okAt hw h
  obtain ⟨F, ⟨A, B, k1, k2, k3, k4, k5, k6⟩, h2, h3, h4, h5⟩ := id h
  obtain ⟨vk, vv, hG, hB⟩ := id k2
  have hrB : B r := (hB r).2 (Or.inl rfl)
  have hrl : r < wr.heap.size := lt_of hG.st
  refine (T.names g K wr A hok k1).mono ?_
  rintro e w' ⟨v, F', rfl, ⟨a, c, rfl, b1, b2, _, hx⟩, i1, i2, i3, i4⟩
  have hcell : w'.cell? ⟨r, 0, none⟩ = wr.cell? ⟨r, 0, none⟩ := by
    have h1 := i2.block r hrl (fun hA => k3 r hA hrB)
    unfold World.cell?
    rw [h1]
  refine ⟨a, c, rfl, ⟨a, c, rfl, b1, b2, fun hne => ?_⟩, ?_, hcell⟩
  · obtain ⟨b, off, C, rfl, hb, hh, hc⟩ := hx hne
    refine ⟨b, off, rfl, lt_of hh, fun i hi j u hu => ?_⟩
    cases j with
    | succ j => simp [enS] at hu
    | zero =>
      simp [enS] at hu
      subst hu
      rw [Nat.mul_one, Nat.add_zero, cell_of hh]
      exact hc i hi
  · refine ⟨fun i => F' i ∨ B i, ⟨F', B, i1, (ri_res r M).kept k2 i2 (fun i hi hA => k3 i hA hi), fun i hi hB' => ?_, fun _ hi => Or.inl hi, fun _ hi => Or.inr hi, fun _ hi => hi⟩, fun i hi => ?_, fun p hp hF => ?_, fun p hp => ⟨(i2.block p.1 (lt_of (h4 p hp).1) (fun hA => h3 p hp (k4 _ hA))).trans (h4 p hp).1, (h4 p hp).2⟩, h5.trans ((i2.mono (fun i hi => h2 i (k4 i hi))).toBelow h5.size)⟩
    · rcases i3 i hi with h | h
      · exact k3 i h hB'
      · have := (ri_res r M).lt k2 i hB'; omega
    · rcases hi with hi | hi
      · rcases i3 i hi with h | h
        · exact h2 i (k4 i h)
        · exact Nat.le_trans h5.size h
      · exact h2 i (k5 i hi)
    · rcases hF with hF | hF
      · rcases i3 _ hF with h | h
        · exact h3 p hp (k4 _ h)
        · have := lt_of (h4 p hp).1; omega
      · exact h3 p hp (k5 _ hF)
theorem qnames (h : Stand (Pair T g K r M) w wr L) : ∃ a c, wr.cell? ⟨r, 0, none⟩ = some (.slice a M.length c) ∧ SliceAt wr (.slice a M.length c) 1 enS (namesOf M) := by
  obtain ⟨A, h1, _⟩ := Stand.callR (T.res g K) h
  obtain ⟨aK, cK, aV, cV, x1, x2, _, _, hc, _, _⟩ := h1.shape
  obtain ⟨hG, c0, _⟩ := hc wr (Below.refl _ _)
  refine ⟨aK, cK, c0, aK, cK, by rw [namesOf_len], by rw [namesOf_len]; exact x1, x2, fun hne => ?_⟩
  obtain ⟨n, hn⟩ : ∃ n, (namesOf M)[0]? = some n := by
    cases h : namesOf M with
    | nil => exact absurd h hne
    | cons n _ => exact ⟨n, rfl⟩
  obtain ⟨b, e, _⟩ := row_cell hG.rk hn
  refine ⟨b, 0, e, ?_, fun i hi j u hu => ?_⟩
  · subst e
    exact ownsRow_lt hG.rk rfl
  · cases j with
    | succ j => simp [enS] at hu
    | zero =>
      simp [enS] at hu
      subst hu
      obtain ⟨b', e', hc'⟩ := row_cell hG.rk (i := i) (x := (namesOf M)[i]) (List.getElem?_eq_getElem hi)
      rw [e] at e'
      cases e'
      rw [Nat.mul_one, Nat.add_zero, Nat.zero_add]
      exact hc'
theorem psame (h : Stand (Pair T g K r K) w wr L) {a a' : Option Addr} {c c' : Nat} (h1 : wr.cell? ⟨r, 0, none⟩ = some (.slice a' K.length c')) (h2 : SliceAt wr (.slice a (namesOf K).length c) 1 enS (namesOf K)) : Calls Tryd.prog 20 #[.slice a (namesOf K).length c, .slice a' K.length c'] wr fun e w' => e = .returned (.bool true) ∧ Stand (Pair T g K r K) w w' L ∧ w'.cell? ⟨r, 0, none⟩ = some (.slice a' K.length c') := by
  obtain ⟨a2, c2, x1, x2⟩ := qnames h
  rw [h1] at x1
  cases x1
  refine (sameTexts_any _ _ _ _ wr h2 x2).mono ?_
  rintro e w' ⟨rfl, m, rfl⟩
  exact ⟨by rw [decide_eq_true rfl], h.drewN pair_res m, h1⟩
end
theorem put_sizes {K : List Kv} (h : ∀ p ∈ K, p.2.size ≤ 100) (n k : ByteArray) : ∀ p ∈ putK K n k, p.2.size ≤ 100 := fun p hp => by
  rcases putE_cases K n k with e | e | e
  · rw [putK_no (by rw [e]; decide)] at hp; exact h p hp
  · rw [putK_no (by rw [e]; decide)] at hp; exact h p hp
  · rw [putK_ok e.1] at hp
    rcases mem_insK hp with rfl | hp
    · exact Nat.le_trans e.2.2.2.1 (by decide)
    · exact h p hp
theorem del_sizes {K : List Kv} (h : ∀ p ∈ K, p.2.size ≤ 100) (n : ByteArray) : ∀ p ∈ delK n K, p.2.size ≤ 100 := fun p hp => h p (List.mem_filter.1 hp).1
namespace PlaysL

set_option maxRecDepth 100000 in
set_option maxHeartbeats 8000000 in
theorem walk (T : KitA) (v0 : Value) (L : List ActV) (w : World) (hw : T.Ok w) (hL : SliceAt w v0 6 ActV.en L) (hd : ∀ a ∈ L, a.draw < 18446744073709551616) : Calls Tryd.prog 3 #[v0] w fun e w' => e = .returned (.bool true) ∧ Below w.heap.size w w' := by
  obtain ⟨a0, c0, rfl, hlc, hcm, hx⟩ := hL
  unfold maxLen at hcm
  have HX : Hid (L ≠ [] → ∃ b off, a0 = some ⟨b, off, none⟩ ∧ b < w.heap.size ∧ ∀ i, (h : i < L.length) → ∀ j u, (ActV.en L[i])[j]? = some u → w.cell? ⟨b, off + i * 6 + j, none⟩ = some u) := hx
  have HD : Hid (∀ a ∈ L, a.draw < 18446744073709551616) := hd
  have HN : Hid (∀ u, Below w.heap.size w u → Calls Tryd.prog 7 #[] u fun e w' => ∃ g, e = .returned (.pointer (some ⟨g, 0, none⟩)) ∧ Stand (T.I g []) w w' []) := fun u hu => snew hw hu
  have HW : Hid (∀ u, Below w.heap.size w u → Calls Tryd.prog 8 #[] u fun e w' => e = .returned (.bool true) ∧ Below w.heap.size w w') := fun u hu => (works_any T u (T.ok hw hu)).mono fun _ _ x => ⟨x.1, hu.trans (x.2.mono hu.size)⟩
  have HAm : Hid (∀ x u, Calls Tryd.prog 11 #[.int .i64 x, .int .i64 4] u fun e w' => e = .returned (.int .i64 (x % 4)) ∧ u = w') := fun x u => among_any x 4 u (by omega) (by omega)
  clear hx hd
  obtain ⟨Z, hZ⟩ : ∃ Z, L.length = Z := ⟨_, rfl⟩
  rw [hZ] at hlc ⊢
  have HZl : Hid (L.length = Z) := hZ
  clear hZ
  go_enter Tryd.func3, Tryd.ntmps3
  go_wp2_with fail
  refine (HN.out _ (Below.refl _ _)).mono ?_
  rintro e w1 ⟨g, rfl, hs1⟩
  obtain ⟨r, hr⟩ : ∃ r, w1.heap.size = r := ⟨_, rfl⟩
  have HS1 : Hid (Stand (Pair T g [] r []) w (w1.alloc (.cells #[.slice none 0 0, .slice none 0 0] 28)) []) := by
    have h1 := ri_new w1
    rw [hr] at h1
    exact Stand.also (T.res g []) hs1 h1 (fun i hi => by rw [hi, hr]; exact Nat.le_refl _) ((Below.refl _ _).alloc (Nat.le_refl _) _)
  clear hs1
  go_wp2_with fail
  clear hr
  go_loopw [5] (fun iv wr => ∃ (i : Nat) (K : List Kv), i ≤ Z ∧ i ≤ 60 ∧ iv = .int .i64 i ∧ Hid (Stand (Pair T g K r K) w wr []) ∧ Hid (∀ p ∈ K, p.2.size ≤ 100)) (fun iv _ => 60 - (intOf iv).toNat)
  case atStart => exact ⟨0, [], by omega, by omega, rfl, HS1, fun p hp => by cases hp⟩
  case round =>
    clear HS1
    obtain ⟨i, K, hiZ, hi60, rfl, HS, HZ⟩ := hrel
    by_cases hlt : i < Z ∧ i < 60
    · obtain ⟨l0, l1⟩ := hlt
      have e0 : decide ((i : Int) < (Z : Int)) = true := decide_eq_true (by omega)
      have e1 : decide ((i : Int) < 60) = true := decide_eq_true (by omega)
      have e2 : (i : Int) < (Z : Int) := by omega
      have hil : i < L.length := by rw [HZl.out]; exact l0
      obtain ⟨b0, o0, rfl, hb0, hc0⟩ := HX.out (by intro e; rw [e] at hil; exact absurd hil (Nat.not_lt_zero _))
      obtain ⟨⟨kd, nm, ky, tx, dr, nu⟩, ha⟩ : ∃ a, L[i] = a := ⟨_, rfl⟩
      have hdr : dr < 18446744073709551616 := by
        have := HD.out _ (List.getElem_mem hil)
        rw [ha] at this
        exact this
      have hcell := hc0 i hil
      rw [ha] at hcell
      have hB := HS.out.base
      obtain ⟨q, hq⟩ : ∃ q, o0 + i * 6 = q := ⟨_, rfl⟩
      rw [hq] at hcell
      have x0 := (hB.cell (p := ⟨b0, q + 0, none⟩) hb0).trans (hcell 0 _ rfl)
      have x1 := (hB.cell (p := ⟨b0, q + 1, none⟩) hb0).trans (hcell 1 _ rfl)
      have x2 := (hB.cell (p := ⟨b0, q + 2, none⟩) hb0).trans (hcell 2 _ rfl)
      have x3 := (hB.cell (p := ⟨b0, q + 3, none⟩) hb0).trans (hcell 3 _ rfl)
      have x4 := (hB.cell (p := ⟨b0, q + 4, none⟩) hb0).trans (hcell 4 _ rfl)
      have x5 := (hB.cell (p := ⟨b0, q + 5, none⟩) hb0).trans (hcell 5 _ rfl)
      rw [Nat.add_zero] at x0
      dsimp only at x0 x1 x2 x3 x4 x5
      clear hc0 ha hcell
      obtain ⟨bb, hbb⟩ : ∃ bb, wr.heap.size = bb := ⟨_, rfl⟩
      obtain ⟨bx, hbx⟩ : ∃ bx, Obj.cells #[.int .i64 kd, .string nm, .string ky, .string tx, .int .u64 (dr : Int), .int .i64 nu] 31 (0, 0) = bx := ⟨_, rfl⟩
      have hS0 := Stand.alloc pair_res HS.out (.cells #[.int .i64 kd, .string nm, .string ky, .string tx, .int .u64 (dr : Int), .int .i64 nu] 31)
      rw [hbb, show (Obj.cells #[.int .i64 kd, .string nm, .string ky, .string tx, .int .u64 (dr : Int), .int .i64 nu] 31 : Obj) = bx from hbx] at hS0
      have HS0 : Hid (Stand (Pair T g K r K) w (wr.alloc bx) [(bb, bx)]) := hS0
      have HCe : Hid (∀ (I : World → (Nat → Prop) → Prop) (u : World), Stand I w u [(bb, bx)] → u.cell? ⟨bb, 0, none⟩ = some (.int .i64 kd) ∧ u.cell? ⟨bb, 1, none⟩ = some (.string nm) ∧ u.cell? ⟨bb, 2, none⟩ = some (.string ky) ∧ u.cell? ⟨bb, 3, none⟩ = some (.string tx) ∧ u.cell? ⟨bb, 4, none⟩ = some (.int .u64 (dr : Int)) ∧ u.cell? ⟨bb, 5, none⟩ = some (.int .i64 nu)) := fun I u hu => by
        have h1 := hu.at (List.mem_singleton.2 rfl)
        rw [← hbx] at h1
        exact ⟨cell_of h1 0, cell_of h1 1, cell_of h1 2, cell_of h1 3, cell_of h1 4, cell_of h1 5⟩
      have HDrop : Hid (∀ (I : World → (Nat → Prop) → Prop) (u : World), Stand I w u [(bb, bx)] → Stand I w u []) := fun I u hu => hu.drop (fun p hp => by cases hp)
      have hSb := HS0.out.base
      have HBx : Hid (Below w.heap.size w (wr.alloc bx)) := hSb
      by_cases z0 : 5000 < nm.size
      · have y0 : decide ((5000 : Int) < (nm.size : Int)) = true := decide_eq_true (by omega)
        have HBx2 : Hid (Below w.heap.size w (wr.alloc (.cells #[.int .i64 kd, .string nm, .string ky, .string tx, .int .u64 (dr : Int), .int .i64 nu] 31))) := by have h := HBx.out; rw [← hbx] at h; exact h
        clear hbb hbx
        go_wp2_with fail
        refine (HW.out _ HBx2.out).mono ?_
        rintro e w5 ⟨rfl, hb5⟩
        go_wp2_with fail
        go_ret
        exact ⟨rfl, hb5⟩
      have y0 : decide ((5000 : Int) < (nm.size : Int)) = false := decide_eq_false (by omega)
      by_cases z1 : 5000 < ky.size
      · have y1 : decide ((5000 : Int) < (ky.size : Int)) = true := decide_eq_true (by omega)
        have HBx2 : Hid (Below w.heap.size w (wr.alloc (.cells #[.int .i64 kd, .string nm, .string ky, .string tx, .int .u64 (dr : Int), .int .i64 nu] 31))) := by have h := HBx.out; rw [← hbx] at h; exact h
        clear hbb hbx
        go_wp2_with fail
        refine (HW.out _ HBx2.out).mono ?_
        rintro e w5 ⟨rfl, hb5⟩
        go_wp2_with fail
        go_ret
        exact ⟨rfl, hb5⟩
      have y1 : decide ((5000 : Int) < (ky.size : Int)) = false := decide_eq_false (by omega)
      by_cases z2 : 5000 < tx.size
      · have y2 : decide ((5000 : Int) < (tx.size : Int)) = true := decide_eq_true (by omega)
        have HBx2 : Hid (Below w.heap.size w (wr.alloc (.cells #[.int .i64 kd, .string nm, .string ky, .string tx, .int .u64 (dr : Int), .int .i64 nu] 31))) := by have h := HBx.out; rw [← hbx] at h; exact h
        clear hbb hbx
        go_wp2_with fail
        refine (HW.out _ HBx2.out).mono ?_
        rintro e w5 ⟨rfl, hb5⟩
        go_wp2_with fail
        go_ret
        exact ⟨rfl, hb5⟩
      have y2 : decide ((5000 : Int) < (tx.size : Int)) = false := decide_eq_false (by omega)
      obtain ⟨U, hU⟩ : ∃ U, (IntKind.u64.wrap nu).toNat = U := ⟨_, rfl⟩
      obtain ⟨c, hc⟩ : ∃ c, chal dr U = c := ⟨_, rfl⟩
      have hcs : c.size = 32 := by rw [← hc, chal_size]
      have HC1 : Hid (∀ u, Stand (Pair T g K r K) w u [(bb, bx)] → Calls Tryd.prog 9 #[.int .u64 (dr : Int), .int .i64 nu] u fun e w' => e = .returned (.string c) ∧ Stand (Pair T g K r K) w w' [(bb, bx)]) := fun u h => (T.chal dr nu u (T.okAt hw h) hdr).mono fun e w' x => by
        rw [hU, hc] at x
        exact ⟨x.1, h.below pair_res x.2⟩
      have HC2 : Hid (∀ u, Stand (Pair T g K r K) w u [(bb, bx)] → Calls Tryd.prog 10 #[.int .u64 (dr : Int), .int .i64 nu] u fun e w' => e = .returned (.string c) ∧ Stand (Pair T g K r K) w w' [(bb, bx)]) := fun u h => (rchal_any dr nu u hdr).mono fun e w' x => by
        rw [hU, hc] at x
        exact ⟨x.1, h.below pair_res x.2⟩
      have HNa : Hid (∀ (K' : List Kv) (u : World), Stand (Pair T g K' r K') w u [(bb, bx)] → Calls Tryd.prog 21 #[.pointer (some ⟨g, 0, none⟩)] u fun e w' => ∃ a c, e = .returned (.slice a (namesOf K').length c) ∧ SliceAt w' (.slice a (namesOf K').length c) 1 enS (namesOf K') ∧ Stand (Pair T g K' r K') w w' [(bb, bx)] ∧ w'.cell? ⟨r, 0, none⟩ = u.cell? ⟨r, 0, none⟩) := fun K' u h => pnames hw h
      have HQn : Hid (∀ (K' : List Kv) (u : World), Stand (Pair T g K' r K') w u [(bb, bx)] → ∃ a c, u.cell? ⟨r, 0, none⟩ = some (.slice a K'.length c) ∧ SliceAt u (.slice a K'.length c) 1 enS (namesOf K')) := fun K' u h => qnames h
      have HSm : Hid (∀ (K' : List Kv) (a a' : Option Addr) (c c' : Nat) (u : World), Stand (Pair T g K' r K') w u [(bb, bx)] → u.cell? ⟨r, 0, none⟩ = some (.slice a' K'.length c') → SliceAt u (.slice a (namesOf K').length c) 1 enS (namesOf K') → Calls Tryd.prog 20 #[.slice a (namesOf K').length c, .slice a' K'.length c'] u fun e w' => e = .returned (.bool true) ∧ Stand (Pair T g K' r K') w w' [(bb, bx)] ∧ w'.cell? ⟨r, 0, none⟩ = some (.slice a' K'.length c')) := fun K' a a' c c' u h h1 h2 => psame h h1 h2
      have HSBx : Hid (wr.alloc (.cells #[.int .i64 kd, .string nm, .string ky, .string tx, .int .u64 (dr : Int), .int .i64 nu] 31) = wr.alloc bx) := by show _ = _; rw [← hbx]
      clear hU hc hbx hS0 hSb
      obtain ⟨k4, hk4⟩ : ∃ k4, kd % 4 = k4 := ⟨_, rfl⟩
      have HAm4 : Hid (∀ u, Calls Tryd.prog 11 #[.int .i64 kd, .int .i64 4] u fun e w' => e = .returned (.int .i64 k4) ∧ u = w') := fun u => by
        have := HAm.out kd u
        rw [hk4] at this
        exact this
      have hk4b : 0 ≤ k4 ∧ k4 < 4 := by omega
      clear hk4
      by_cases q0 : k4 = 0
      · subst q0
        go_wp2_with fail
        rw [HSBx.out]
        refine (HC1.out _ HS0.out).mono ?_
        rintro e w5 ⟨rfl, hs5⟩
        obtain ⟨m0, m1, m2, m3, m4, m5⟩ := HCe.out _ _ hs5
        go_wp2_with fail
        refine (HC2.out _ hs5).mono ?_
        rintro e w6 ⟨rfl, hs6⟩
        obtain ⟨n0, n1, n2, n3, n4, n5⟩ := HCe.out _ _ hs6
        clear m0 m1 m2 m3 m4 m5 hs5
        go_wp2_with fail
        refine (HAm4.out _).mono ?_
        rintro e w7 ⟨rfl, rfl⟩
        have hS : Stand (Pair T g K r K) w w6.drew [(bb, bx)] := hs6.drewN pair_res 1
        obtain ⟨E, hE⟩ : ∃ E, putE K nm ky = E := ⟨_, rfl⟩
        obtain ⟨K', hK'⟩ : ∃ K', putK K nm ky = K' := ⟨_, rfl⟩
        have HZ' : Hid (∀ p ∈ K', p.2.size ≤ 100) := by rw [← hK']; exact put_sizes HZ.out nm ky
        have HA : Hid (∀ u, Stand (Pair T g K r K) w u [(bb, bx)] → Calls Tryd.prog 12 #[.pointer (some ⟨g, 0, none⟩), .string nm, .string ky] u fun e w' => e = .returned (.int .i64 E) ∧ Stand (Pair T g K' r K) w w' [(bb, bx)] ∧ w'.cell? ⟨bb, 1, none⟩ = some (.string nm) ∧ w'.cell? ⟨bb, 2, none⟩ = some (.string ky)) := fun u h => (pput hw h nm ky (by omega) (by omega)).mono fun e w' x => by
          rw [hE, hK'] at x
          obtain ⟨_, h1, h2, _⟩ := HCe.out _ _ x.2
          exact ⟨x.1, x.2, h1, h2⟩
        have HBq : Hid (∀ u, Stand (Pair T g K' r K) w u [(bb, bx)] → Calls Tryd.prog 13 #[.pointer (some ⟨r, 0, none⟩), .string nm, .string ky] u fun e w' => e = .returned (.int .i64 E) ∧ Stand (Pair T g K' r K') w w' [(bb, bx)] ∧ w'.cell? ⟨bb, 1, none⟩ = some (.string nm) ∧ w'.cell? ⟨bb, 2, none⟩ = some (.string ky)) := fun u h => (qput h nm ky (by omega)).mono fun e w' x => by
          rw [hE, hK'] at x
          obtain ⟨_, h1, h2, _⟩ := HCe.out _ _ x.2
          exact ⟨x.1, x.2, h1, h2⟩
        clear hE hK' hs6
        go_wp2_with fail
        go_region_held3 (fun u => u.cell? ⟨bb, 1, none⟩ = some (.string nm) ∧ u.cell? ⟨bb, 2, none⟩ = some (.string ky)) (go_keep)
          (first
            | (go_at_call 12; refine (HA.out _ hS).mono ?_; rintro e w8 ⟨rfl, hS, p1, p2⟩)
            | (go_at_call 13; refine (HBq.out _ hS).mono ?_; rintro e w9 ⟨rfl, hS, r1, r2⟩))
        go_wp2_with fail
        obtain ⟨aD, cD, hcD, _⟩ := HQn.out _ _ hS
        have hcE : w9.drew.cell? ⟨r, 0, none⟩ = some (.slice aD K'.length cD) := hcD
        replace hS : Stand (Pair T g K' r K') w w9.drew [(bb, bx)] := hS.drewN pair_res 1
        go_region_held3 (fun u => u.cell? ⟨r, 0, none⟩ = some (.slice aD K'.length cD)) (go_keep)
          (first
            | (go_at_call 21; refine (HNa.out _ _ hS).mono ?_; rintro e w20 ⟨aP, cP, rfl, hsP, hS, hcP⟩; have hcQ := hcP.trans hcE)
            | (go_at_call 20; refine (HSm.out _ _ _ _ _ _ hS hcQ hsP).mono ?_; rintro e w21 ⟨rfl, hS, hcR⟩))
        go_wp2_with fail
        have HSn : Hid (Stand (Pair T g K' r K') w w21 []) := HDrop.out _ _ hS
        clear hS hsP
        go_roundw
        case rel => exact ⟨i + 1, K', by omega, by omega, by go_num, HSn, HZ'⟩
        case measure => simp [intOf]; omega
      by_cases q1 : k4 = 1
      · subst q1
        go_wp2_with fail
        rw [HSBx.out]
        refine (HC1.out _ HS0.out).mono ?_
        rintro e w5 ⟨rfl, hs5⟩
        obtain ⟨m0, m1, m2, m3, m4, m5⟩ := HCe.out _ _ hs5
        go_wp2_with fail
        refine (HC2.out _ hs5).mono ?_
        rintro e w6 ⟨rfl, hs6⟩
        obtain ⟨n0, n1, n2, n3, n4, n5⟩ := HCe.out _ _ hs6
        clear m0 m1 m2 m3 m4 m5 hs5
        go_wp2_with fail
        refine (HAm4.out _).mono ?_
        rintro e w7 ⟨rfl, rfl⟩
        have hS : Stand (Pair T g K r K) w w6.drew [(bb, bx)] := hs6.drewN pair_res 1
        obtain ⟨E, hE⟩ : ∃ E, takeE K nm = E := ⟨_, rfl⟩
        obtain ⟨K', hK'⟩ : ∃ K', delK nm K = K' := ⟨_, rfl⟩
        have HZ' : Hid (∀ p ∈ K', p.2.size ≤ 100) := by rw [← hK']; exact del_sizes HZ.out nm
        have HA : Hid (∀ u, Stand (Pair T g K r K) w u [(bb, bx)] → Calls Tryd.prog 14 #[.pointer (some ⟨g, 0, none⟩), .string nm] u fun e w' => e = .returned (.int .i64 E) ∧ Stand (Pair T g K' r K) w w' [(bb, bx)] ∧ w'.cell? ⟨bb, 1, none⟩ = some (.string nm)) := fun u h => (ptake hw h nm (by omega)).mono fun e w' x => by
          rw [hE, hK'] at x
          obtain ⟨_, h1, h2, _⟩ := HCe.out _ _ x.2
          exact ⟨x.1, x.2, h1⟩
        have HBq : Hid (∀ u, Stand (Pair T g K' r K) w u [(bb, bx)] → Calls Tryd.prog 15 #[.pointer (some ⟨r, 0, none⟩), .string nm] u fun e w' => e = .returned (.int .i64 E) ∧ Stand (Pair T g K' r K') w w' [(bb, bx)] ∧ w'.cell? ⟨bb, 1, none⟩ = some (.string nm)) := fun u h => (qtake h nm).mono fun e w' x => by
          rw [hE, hK'] at x
          obtain ⟨_, h1, h2, _⟩ := HCe.out _ _ x.2
          exact ⟨x.1, x.2, h1⟩
        clear hE hK' hs6
        go_wp2_with fail
        go_region_held3 (fun u => u.cell? ⟨bb, 1, none⟩ = some (.string nm)) (go_keep)
          (first
            | (go_at_call 14; refine (HA.out _ hS).mono ?_; rintro e w8 ⟨rfl, hS, p1⟩)
            | (go_at_call 15; refine (HBq.out _ hS).mono ?_; rintro e w9 ⟨rfl, hS, r1⟩))
        go_wp2_with fail
        obtain ⟨aD, cD, hcD, _⟩ := HQn.out _ _ hS
        have hcE : w9.drew.cell? ⟨r, 0, none⟩ = some (.slice aD K'.length cD) := hcD
        replace hS : Stand (Pair T g K' r K') w w9.drew [(bb, bx)] := hS.drewN pair_res 1
        go_region_held3 (fun u => u.cell? ⟨r, 0, none⟩ = some (.slice aD K'.length cD)) (go_keep)
          (first
            | (go_at_call 21; refine (HNa.out _ _ hS).mono ?_; rintro e w20 ⟨aP, cP, rfl, hsP, hS, hcP⟩; have hcQ := hcP.trans hcE)
            | (go_at_call 20; refine (HSm.out _ _ _ _ _ _ hS hcQ hsP).mono ?_; rintro e w21 ⟨rfl, hS, hcR⟩))
        go_wp2_with fail
        have HSn : Hid (Stand (Pair T g K' r K') w w21 []) := HDrop.out _ _ hS
        clear hS hsP
        go_roundw
        case rel => exact ⟨i + 1, K', by omega, by omega, by go_num, HSn, HZ'⟩
        case measure => simp [intOf]; omega
      by_cases q2 : k4 = 2
      · subst q2
        go_wp2_with fail
        rw [HSBx.out]
        refine (HC1.out _ HS0.out).mono ?_
        rintro e w5 ⟨rfl, hs5⟩
        obtain ⟨m0, m1, m2, m3, m4, m5⟩ := HCe.out _ _ hs5
        go_wp2_with fail
        refine (HC2.out _ hs5).mono ?_
        rintro e w6 ⟨rfl, hs6⟩
        obtain ⟨n0, n1, n2, n3, n4, n5⟩ := HCe.out _ _ hs6
        clear m0 m1 m2 m3 m4 m5 hs5
        go_wp2_with fail
        refine (HAm4.out _).mono ?_
        rintro e w7 ⟨rfl, rfl⟩
        obtain ⟨pf, hpf⟩ : ∃ pf, proof ky nm c = pf := ⟨_, rfl⟩
        have hpz : pf.size = 32 := by rw [← hpf, proof_size]
        obtain ⟨E, hE⟩ : ∃ E, checkE K nm c pf = E := ⟨_, rfl⟩
        have HP : Hid (∀ u, Stand (Pair T g K r K) w u [(bb, bx)] → Calls Tryd.prog 16 #[.string ky, .string nm, .string c] u fun e w' => e = .returned (.string pf) ∧ Stand (Pair T g K r K) w w' [(bb, bx)]) := fun u h => (T.proof ky nm c u (T.okAt hw h) (by omega) (by omega) (by omega)).mono fun e w' x => by
          rw [hpf] at x
          exact ⟨x.1, h.below pair_res x.2⟩
        have HPq : Hid (∀ u, Stand (Pair T g K r K) w u [(bb, bx)] → Calls Tryd.prog 17 #[.string ky, .string nm, .string c] u fun e w' => e = .returned (.string pf) ∧ Stand (Pair T g K r K) w w' [(bb, bx)] ∧ w'.cell? ⟨bb, 1, none⟩ = some (.string nm) ∧ w'.cell? ⟨bb, 2, none⟩ = some (.string ky)) := fun u h => (rproof_any ky nm c u (by omega) (by omega) (by omega)).mono fun e w' x => by
          rw [hpf] at x
          have h' := h.below pair_res x.2
          obtain ⟨_, h1, h2, _⟩ := HCe.out _ _ h'
          exact ⟨x.1, h', h1, h2⟩
        have HA : Hid (∀ u, Stand (Pair T g K r K) w u [(bb, bx)] → Calls Tryd.prog 18 #[.pointer (some ⟨g, 0, none⟩), .string nm, .string c, .string pf] u fun e w' => e = .returned (.int .i64 E) ∧ Stand (Pair T g K r K) w w' [(bb, bx)] ∧ w'.cell? ⟨bb, 1, none⟩ = some (.string nm) ∧ w'.cell? ⟨bb, 2, none⟩ = some (.string ky)) := fun u h => (pcheck hw h nm c pf (by omega) (by omega) (by omega)).mono fun e w' x => by
          rw [hE] at x
          obtain ⟨_, h1, h2, _⟩ := HCe.out _ _ x.2
          exact ⟨x.1, x.2, h1, h2⟩
        have HBq : Hid (∀ u, Stand (Pair T g K r K) w u [(bb, bx)] → Calls Tryd.prog 19 #[.pointer (some ⟨r, 0, none⟩), .string nm, .string c, .string pf] u fun e w' => e = .returned (.int .i64 E) ∧ Stand (Pair T g K r K) w w' [(bb, bx)] ∧ w'.cell? ⟨bb, 1, none⟩ = some (.string nm) ∧ w'.cell? ⟨bb, 2, none⟩ = some (.string ky)) := fun u h => (qcheck h HZ.out nm c pf (by omega) (by omega)).mono fun e w' x => by
          rw [hE] at x
          obtain ⟨_, h1, h2, _⟩ := HCe.out _ _ x.2
          exact ⟨x.1, x.2, h1, h2⟩
        clear hE hpf
        go_wp2_with fail
        refine (HP.out _ hs6).mono ?_
        rintro e w8 ⟨rfl, hs8⟩
        obtain ⟨l0, l1', l2, l3, l4, l5⟩ := HCe.out _ _ hs8
        clear n0 n1 n2 n3 n4 n5 hs6
        have hS : Stand (Pair T g K r K) w w8.drew [(bb, bx)] := hs8.drewN pair_res 1
        go_wp2_with fail
        go_region_held3 (fun u => u.cell? ⟨bb, 1, none⟩ = some (.string nm) ∧ u.cell? ⟨bb, 2, none⟩ = some (.string ky)) (go_keep)
          (first
            | (go_at_call 17; refine (HPq.out _ hS).mono ?_; rintro e w9 ⟨rfl, hS, p1, p2⟩)
            | (go_at_call 18; refine (HA.out _ hS).mono ?_; rintro e w10 ⟨rfl, hS, r1, r2⟩)
            | (go_at_call 19; refine (HBq.out _ hS).mono ?_; rintro e w11 ⟨rfl, hS, s1, s2⟩))
        go_wp2_with fail
        obtain ⟨aD, cD, hcD, _⟩ := HQn.out _ _ hS
        have hcE : w11.drew.cell? ⟨r, 0, none⟩ = some (.slice aD K.length cD) := hcD
        replace hS : Stand (Pair T g K r K) w w11.drew [(bb, bx)] := hS.drewN pair_res 1
        go_region_held3 (fun u => u.cell? ⟨r, 0, none⟩ = some (.slice aD K.length cD)) (go_keep)
          (first
            | (go_at_call 21; refine (HNa.out _ _ hS).mono ?_; rintro e w20 ⟨aP, cP, rfl, hsP, hS, hcP⟩; have hcQ := hcP.trans hcE)
            | (go_at_call 20; refine (HSm.out _ _ _ _ _ _ hS hcQ hsP).mono ?_; rintro e w21 ⟨rfl, hS, hcR⟩))
        go_wp2_with fail
        have HSn : Hid (Stand (Pair T g K r K) w w21 []) := HDrop.out _ _ hS
        clear hS hsP
        go_roundw
        case rel => exact ⟨i + 1, K, by omega, by omega, by go_num, HSn, HZ⟩
        case measure => simp [intOf]; omega
      have q3 : k4 = 3 := by omega
      subst q3
      go_wp2_with fail
      rw [HSBx.out]
      refine (HC1.out _ HS0.out).mono ?_
      rintro e w5 ⟨rfl, hs5⟩
      obtain ⟨m0, m1, m2, m3, m4, m5⟩ := HCe.out _ _ hs5
      go_wp2_with fail
      refine (HC2.out _ hs5).mono ?_
      rintro e w6 ⟨rfl, hs6⟩
      obtain ⟨n0, n1, n2, n3, n4, n5⟩ := HCe.out _ _ hs6
      clear m0 m1 m2 m3 m4 m5 hs5
      go_wp2_with fail
      refine (HAm4.out _).mono ?_
      rintro e w7 ⟨rfl, rfl⟩
      have hS : Stand (Pair T g K r K) w w6.drew [(bb, bx)] := hs6.drewN pair_res 1
      obtain ⟨E, hE⟩ : ∃ E, checkE K nm c tx = E := ⟨_, rfl⟩
      have HA : Hid (∀ u, Stand (Pair T g K r K) w u [(bb, bx)] → Calls Tryd.prog 18 #[.pointer (some ⟨g, 0, none⟩), .string nm, .string c, .string tx] u fun e w' => e = .returned (.int .i64 E) ∧ Stand (Pair T g K r K) w w' [(bb, bx)] ∧ w'.cell? ⟨bb, 1, none⟩ = some (.string nm) ∧ w'.cell? ⟨bb, 3, none⟩ = some (.string tx)) := fun u h => (pcheck hw h nm c tx (by omega) (by omega) (by omega)).mono fun e w' x => by
        rw [hE] at x
        obtain ⟨_, h1, _, h3, _⟩ := HCe.out _ _ x.2
        exact ⟨x.1, x.2, h1, h3⟩
      have HBq : Hid (∀ u, Stand (Pair T g K r K) w u [(bb, bx)] → Calls Tryd.prog 19 #[.pointer (some ⟨r, 0, none⟩), .string nm, .string c, .string tx] u fun e w' => e = .returned (.int .i64 E) ∧ Stand (Pair T g K r K) w w' [(bb, bx)] ∧ w'.cell? ⟨bb, 1, none⟩ = some (.string nm) ∧ w'.cell? ⟨bb, 3, none⟩ = some (.string tx)) := fun u h => (qcheck h HZ.out nm c tx (by omega) (by omega)).mono fun e w' x => by
        rw [hE] at x
        obtain ⟨_, h1, _, h3, _⟩ := HCe.out _ _ x.2
        exact ⟨x.1, x.2, h1, h3⟩
      clear hE hs6
      go_wp2_with fail
      go_region_held3 (fun u => u.cell? ⟨bb, 1, none⟩ = some (.string nm) ∧ u.cell? ⟨bb, 3, none⟩ = some (.string tx)) (go_keep)
        (first
          | (go_at_call 18; refine (HA.out _ hS).mono ?_; rintro e w8 ⟨rfl, hS, p1, p2⟩)
          | (go_at_call 19; refine (HBq.out _ hS).mono ?_; rintro e w9 ⟨rfl, hS, r1, r2⟩))
      go_wp2_with fail
      obtain ⟨aD, cD, hcD, _⟩ := HQn.out _ _ hS
      have hcE : w9.drew.cell? ⟨r, 0, none⟩ = some (.slice aD K.length cD) := hcD
      replace hS : Stand (Pair T g K r K) w w9.drew [(bb, bx)] := hS.drewN pair_res 1
      go_region_held3 (fun u => u.cell? ⟨r, 0, none⟩ = some (.slice aD K.length cD)) (go_keep)
        (first
          | (go_at_call 21; refine (HNa.out _ _ hS).mono ?_; rintro e w20 ⟨aP, cP, rfl, hsP, hS, hcP⟩; have hcQ := hcP.trans hcE)
          | (go_at_call 20; refine (HSm.out _ _ _ _ _ _ hS hcQ hsP).mono ?_; rintro e w21 ⟨rfl, hS, hcR⟩))
      go_wp2_with fail
      have HSn : Hid (Stand (Pair T g K r K) w w21 []) := HDrop.out _ _ hS
      clear hS hsP
      go_roundw
      case rel => exact ⟨i + 1, K, by omega, by omega, by go_num, HSn, HZ⟩
      case measure => simp [intOf]; omega
    · have hdone : ¬ (i < Z ∧ i < 60) := hlt
      have HB : Hid (Below w.heap.size w wr) := HS.out.base
      by_cases l0 : i < Z
      · have l1 : i = 60 := by omega
        have e0 : decide ((i : Int) < (Z : Int)) = true := decide_eq_true (by omega)
        have e1 : decide ((i : Int) < 60) = false := decide_eq_false (by omega)
        subst l1
        go_wp2_with fail
        refine (HW.out _ HB.out).mono ?_
        rintro e w5 ⟨rfl, hb5⟩
        go_wp2_with fail
        go_ret
        exact ⟨rfl, hb5⟩
      · have e0 : decide ((i : Int) < (Z : Int)) = false := decide_eq_false (by omega)
        go_wp2_with fail
        refine (HW.out _ HB.out).mono ?_
        rintro e w5 ⟨rfl, hb5⟩
        go_wp2_with fail
        go_ret
        exact ⟨rfl, hb5⟩
end PlaysL
end Go.Proofs.YtibglhlhogfdnaaDoor
