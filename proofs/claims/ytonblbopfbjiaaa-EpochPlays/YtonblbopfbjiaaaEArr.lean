/- The laws' own array of workers, and what they read of the acts. -/
import Derived.Test.YtonblbopfbjiaaaEStand
import Derived.Test.YtonblbopfbjiaaaOpen
import Derived.Laws.Rows
namespace Go.Proofs.Ytonblbopfbjiaaa
open Go.RowKit

/-- of workers that work their epochs, as the laws keep them -/
def arr (c : Ck) : List Int := c.ws ++ List.replicate (16 - c.ws.length) 0
abbrev arrO (A : List Int) : Obj := .cells (icells A).toArray 46 (0, 0)

theorem arr_len {c : Ck} (h : c.Ok) : (arr c).length = 16 := by
  have := h.few
  rw [arr, List.length_append, List.length_replicate]
  omega
theorem arr_new {n every epoch : Int} (h : newOk n every epoch = true) : arr (Ck.new n every epoch) = List.replicate 16 0 := by
  obtain ⟨h1, h2, -⟩ := newOk_iff.1 h
  show List.replicate n.toNat (0 : Int) ++ List.replicate (16 - (List.replicate n.toNat (0 : Int)).length) 0 = _
  rw [List.length_replicate, List.replicate_append_replicate]
  congr 1
  omega
theorem arr_set {c : Ck} {k : Nat} (hk : k < c.ws.length) (x : Int) : (arr c).set k x = c.ws.set k x ++ List.replicate (16 - (c.ws.set k x).length) 0 := by
  rw [arr, List.set_append_left _ _ hk, List.length_set]
theorem arr_enter {c : Ck} {k : Nat} (hk : k < c.ws.length) : (arr c).set k c.now = arr (c.enter k) := arr_set hk _
theorem arr_leave {c : Ck} {k : Nat} (hk : k < c.ws.length) : (arr c).set k 0 = arr (c.leave k) := arr_set hk _
theorem arr_all {c : Ck} (h : c.Ok) : ∀ e ∈ arr c, e = 0 ∨ (c.now - 1 ≤ e ∧ e ≤ c.now ∧ c.snap < e) := by
  intro e he
  rcases List.mem_append.1 he with he | he
  · exact h.work e he
  · exact Or.inl (List.eq_of_mem_replicate he)
theorem lates_zero (now : Int) (n : Nat) : lates now (List.replicate n 0) = false := lates_iff.2 fun _ he => Or.inl (List.eq_of_mem_replicate he)
theorem arr_late (c : Ck) : lates c.now (arr c) = c.late := by
  unfold arr Ck.late
  have := lates_zero c.now (16 - c.ws.length)
  unfold lates at this ⊢
  rw [List.any_append, this, Bool.or_false]

theorem arrO_get {A : List Int} {i : Nat} (h : i < A.length) : (icells A).toArray[i]? = some (.int .i64 A[i]) := by
  rw [List.getElem?_toArray, icells_get h]
theorem arrO_set (A : List Int) (i : Nat) (x : Int) : (icells A).toArray.setIfInBounds i (.int .i64 x) = (icells (A.set i x)).toArray := by
  rw [List.setIfInBounds_toArray, icells_set]

theorem size16 : (Try.prog.info? 46).map (·.size) = some 16 := by kernel_rfl

/-- the array read by value -/
theorem wpList_arr {ops : Array Oper} {rest : List Oper} {o : Oper} {a : Act} {w : World} {Q : Exit → Act → World → Prop} (hgd : o.guard = none) (x : Operand) (ho : o.op = .load 46 x)
    (p : Nat) (hx : a.eval x = .pointer (some ⟨p, 0, none⟩)) (A : List Int) (hA : A.length = 16) (hg : w.heap[p]? = some (arrO A))
    (h : wpList Try.prog ops Q rest (a.put o.dst (.agg (icells A).toArray)) w) : wpList Try.prog ops Q (o :: rest) a w :=
  wpList_load_row hgd 46 x ho p hx 46 (icells A).toArray (0, 0) _ hg Try.underlying46 rfl (by rw [size16, List.size_toArray, icells_length, hA]) h

theorem index_arr {A : List Int} (hA : A.length = 16) {i : Nat} (hi : i < A.length) (w : World) : (Instr.index 46 (.agg (icells A).toArray) (.int .i64 (i : Int))).run Try.prog w = .ok (.int .i64 A[i]) w := by
  have h1 : (0 : Int) ≤ i ∧ (i : Int) < 16 := by omega
  have h2 : (icells A)[i]? = some (.int .i64 A[i]) := icells_get hi
  simp [Instr.index, asIntOf, h1, h2, go_sem]
  intro h3
  omega

theorem among_num (x n : Int) (_hn : 1 ≤ n) : (x.tmod n + n) % n = x % n := by
  have h3 : x.tmod n = x % n ∨ x.tmod n = x % n - n := by
    rw [Int.tmod_eq_emod]
    split
    · left; omega
    · right; omega
  rcases h3 with e | e
  · rw [e, Int.add_emod_right, Int.emod_emod]
  · rw [e, show x % n - n + n = x % n from by omega, Int.emod_emod]

set_option maxHeartbeats 400000 in
theorem among_any (x n : Int) (w : World) (hn : 1 ≤ n) (hn2 : n ≤ 1000) :
    Calls Try.prog 17 #[.int .i64 x, .int .i64 n] w fun e w' => e = .returned (.int .i64 (x % n)) ∧ w' = w := by
  have hl : -n < x.tmod n ∧ x.tmod n < n := ⟨Int.lt_tmod_of_pos x (by omega), Int.tmod_lt_of_pos x (by omega)⟩
  have h1 := hl.1
  have h2 := hl.2
  have HN : Hid ((x.tmod n + n) % n = x % n) := among_num x n hn
  have hz : (n == 0) = false := by rw [beq_eq_false_iff_ne]; omega
  clear hl
  go_enter Try.func17, Try.ntmps17
  go_wp2
  go_ret
  exact ⟨ret_int HN.out, rfl⟩

/-- acts that came in, as the walks take them -/
theorem acts_open {w : World} {v : Value} {L : List (Int × Int)} (h : SliceAt w v 2 enT L) : ∃ a c, v = .slice a L.length c ∧ L.length ≤ c ∧ c ≤ maxLen ∧ (∀ u, Below w.heap.size w u → ∀ i, (hi : i < L.length) → ∃ b off, a = some ⟨b, off, none⟩ ∧ u.cell? ⟨b, off + i * 2, none⟩ = some (.int .i64 L[i].1) ∧ u.cell? ⟨b, off + i * 2 + 1, none⟩ = some (.int .i64 L[i].2)) := by
  obtain ⟨a, c, rfl, h1, h2, hx⟩ := h
  refine ⟨a, c, rfl, h1, h2, fun u hu i hi => ?_⟩
  obtain ⟨b, off, e, hl, hc⟩ := hx (fun e => by rw [e] at hi; simp at hi)
  refine ⟨b, off, e, ?_, ?_⟩
  · rw [hu.cell (p := ⟨b, off + i * 2, none⟩) hl]
    exact hc i hi 0 _ rfl
  · rw [hu.cell (p := ⟨b, off + i * 2 + 1, none⟩) hl]
    exact hc i hi 1 _ rfl

section
variable {g : Nat} {c : Ck} {w wr : World} {L : List (Nat × Obj)}
/-- the array is written beside the clock -/
theorem Has.setArr {p : Nat} {A : List Int} (h : Has g c w wr [(p, arrO A)]) (i : Nat) (x : Int) : Has g c w (wr.setCell ⟨p, i, none⟩ (.int .i64 x)) [(p, arrO (A.set i x))] :=
  Stand.set (clockI_res _ _) h (List.mem_singleton.2 rfl) i (.int .i64 x) _ (fun q hq => Or.inr (by rw [List.mem_singleton.1 hq, arrO_set]))
theorem Has.stays (h : Has g c w wr L) {w' : World} (hb : Below wr.heap.size wr w') : Has g c w w' L := Stand.below (clockI_res _ _) h hb
theorem Has.box (h : Has g c w wr L) (o : Obj) : Has g c w (wr.alloc o) L := h.stays ((Below.refl _ _).alloc (Nat.le_refl _) o)
theorem Has.arrCell {p : Nat} {A : List Int} (h : Has g c w wr [(p, arrO A)]) {i : Nat} (hi : i < A.length) : wr.cell? ⟨p, i, none⟩ = some (.int .i64 A[i]) ∧ wr.frozen? ⟨p, i, none⟩ = false := by
  have h1 := Stand.at h (List.mem_singleton.2 rfl)
  exact ⟨by rw [cell_of h1, arrO_get hi], frozen_of h1 _⟩

abbrev actO (k x : Int) : Obj := .cells #[.int .i64 k, .int .i64 x] 34 (0, 0)

/-- an act's own block beside the array -/
theorem Has.boxAct {p : Nat} {A : List Int} (h : Has g c w wr [(p, arrO A)]) (k x : Int) : Has g c w (wr.alloc (actO k x)) [(wr.heap.size, actO k x), (p, arrO A)] := Stand.alloc (clockI_res _ _) h (actO k x)
theorem Has.unAct {p q : Nat} {A : List Int} {o : Obj} (h : Has g c w wr [(q, o), (p, arrO A)]) : Has g c w wr [(p, arrO A)] := Stand.drop h (fun _ hz => List.mem_cons_of_mem _ hz)
theorem Has.setArr2 {p q : Nat} {A : List Int} {k x : Int} (h : Has g c w wr [(q, actO k x), (p, arrO A)]) (i : Nat) (y : Int) : Has g c w (wr.setCell ⟨p, i, none⟩ (.int .i64 y)) [(p, arrO (A.set i y))] := h.unAct.setArr i y
theorem Has.actCell {p q : Nat} {A : List Int} {k x : Int} (h : Has g c w wr [(q, actO k x), (p, arrO A)]) : wr.cell? ⟨q, 0, none⟩ = some (.int .i64 k) ∧ wr.cell? ⟨q, 1, none⟩ = some (.int .i64 x) := by
  have h1 := Stand.at h (b := q) (o := actO k x) (List.mem_cons_self ..)
  exact ⟨by rw [cell_of h1]; rfl, by rw [cell_of h1]; rfl⟩

/-- the same, with a clock behind it -/
structure Steps (c c' : Ck) : Prop where
  now : c.now ≤ c'.now
  snap : c.snap ≤ c'.snap

theorem Has.enter' (h : Has g c w wr L) {k : Nat} (hk : c.ws[k]? = some 0) : Calls Try.prog 18 #[.pointer (some ⟨g, 0, none⟩), .int .i64 (k : Int)] wr fun e w' => e = .returned (.tuple #[.int .i64 c.now, .int .i64 0]) ∧ ∃ c', Hid (c' = c.enter k) ∧ Hid (Steps c c') ∧ Hid (Has g c' w w' L) :=
  (h.enter hk).mono fun _ _ ⟨he, h1⟩ => ⟨he, c.enter k, (rfl : c.enter k = c.enter k), (⟨Int.le_refl _, Int.le_refl _⟩ : Steps c (c.enter k)), h1⟩
theorem Has.leave' (h : Has g c w wr L) {k : Nat} {e0 : Int} (hk : c.ws[k]? = some e0) (h0 : e0 ≠ 0) : Calls Try.prog 19 #[.pointer (some ⟨g, 0, none⟩), .int .i64 (k : Int)] wr fun e w' => e = .returned (.int .i64 0) ∧ ∃ c', Hid (c' = c.leave k) ∧ Hid (Steps c c') ∧ Hid (Has g c' w w' L) :=
  (h.leave hk h0).mono fun _ _ ⟨he, h1⟩ => ⟨he, c.leave k, (rfl : c.leave k = c.leave k), (⟨Int.le_refl _, Int.le_refl _⟩ : Steps c (c.leave k)), h1⟩
theorem Has.adv' (h : Has g c w wr L) : Calls Try.prog 16 #[.pointer (some ⟨g, 0, none⟩)] wr fun e w' => ∃ v, e = .returned v ∧ ∃ c', Hid (c'.ws = c.ws) ∧ Hid (Steps c c') ∧ Hid (Has g c' w w' L) := by
  by_cases hn : c.now = 2147483648
  · exact (h.last hn).mono fun e w' ⟨he, h1⟩ => ⟨_, he, c, (rfl : c.ws = c.ws), (⟨Int.le_refl _, Int.le_refl _⟩ : Steps c c), h1⟩
  · cases hl : c.late with
    | true => exact (h.late hn hl).mono fun e w' ⟨he, h1⟩ => ⟨_, he, c, (rfl : c.ws = c.ws), (⟨Int.le_refl _, Int.le_refl _⟩ : Steps c c), h1⟩
    | false => exact (h.rise hn hl).mono fun e w' ⟨he, h1⟩ => ⟨_, he, c.rise, (rfl : c.rise.ws = c.ws), (⟨by show c.now ≤ c.now + 1; omega, (c.rise_snap h.ok).1⟩ : Steps c c.rise), h1⟩
theorem arr_ws {c c' : Ck} (h : c'.ws = c.ws) : arr c' = arr c := by unfold arr; rw [h]
end

end Go.Proofs.Ytonblbopfbjiaaa
