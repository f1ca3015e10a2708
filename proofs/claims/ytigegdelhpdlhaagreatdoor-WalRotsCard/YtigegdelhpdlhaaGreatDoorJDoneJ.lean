import Derived.Test.YtigegdelhpdlhaaGreatDoorJFaceJ
/- Layer 18's face: done, over a closure that captures two or three values. -/
namespace Go.Proofs.YtigegdelhpdlhaaGreatDoor
open Go.RowKit

/-- the variable of the named result -/
abbrev errO (n : Int) : Obj := .cells #[.int .i64 n] 30 (0, 0)

set_option maxRecDepth 100000 in
set_option maxHeartbeats 1000000 in
theorem done2_ok (K : FuncId) (a0 a1 : Value) (w : World) (Q : World → Prop) (hE : ∀ u, (callFunc K #[a0, a1]).run Tryz.prog u = .ok (.enter K #[a0, a1]) u) (h : Calls Tryz.prog K #[a0, a1] (w.alloc (errO 0)) fun r w' => r = .returned (.tuple #[]) ∧ Q w')
    (hQ : ∀ w', Q w' → w'.heap[w.heap.size]? = some (errO 0)) : Calls Tryz.prog 35 #[.func (.func K) #[] #[a0, a1]] w fun r w' => r = .returned (.int .i64 0) ∧ ∃ w1, Q w1 ∧ w' = w1.setCell ⟨w.heap.size, 0, none⟩ (.int .i64 0) := by
  have hmf : ∀ (fn : Fn) (first cap : Array Value) (w : World), (Instr.makeFunc fn first cap).run Tryz.prog w = .ok (.func fn first cap) w := fun _ _ _ _ => rfl
  have HC : Hid (Calls Tryz.prog K #[a0, a1] (w.alloc (errO 0)) fun r w' => r = .returned (.tuple #[]) ∧ Q w') := h
  have HQ : Hid (∀ w', Q w' → w'.heap[w.heap.size]? = some (errO 0)) := hQ
  clear h hQ
  go_enter_defers Tryz.func35, Tryz.ntmps35
  go_wp2_with fail
  refine HC.out.mono ?_
  rintro r w1 ⟨rfl, hq⟩
  have h1 := HQ.out w1 hq
  have d0 : w1.cell? ⟨w.heap.size, 0, none⟩ = some (.int .i64 0) := by rw [cell_of h1]; rfl
  have z0 : w1.frozen? ⟨w.heap.size, 0, none⟩ = false := frozen_of h1 0
  clear h1
  go_wp2_with fail
  refine leaves_cons (f := 62) (args := #[.pointer (some ⟨w.heap.size, 0, none⟩)]) (by simp) (by simp [go_sem]) ?_
  refine (catch_idle ⟨w.heap.size, 0, none⟩ _).mono ?_
  rintro e u' w'' ⟨rfl, rfl, rfl⟩
  have e0 : (w1.setCell ⟨w.heap.size, 0, none⟩ (.int .i64 0)).cell? ⟨w.heap.size, 0, none⟩ = some (.int .i64 0) := World.cell?_setCell_same _ _ _ d0
  simp [Leaves, settle, results, Tryz.results35, go_sem, e0]
  exact ⟨w1, hq, rfl⟩

set_option maxRecDepth 100000 in
set_option maxHeartbeats 1000000 in
theorem done2_err (K : FuncId) (a0 a1 : Value) (n : Int) (w : World) (Q : World → Prop) (hE : ∀ u, (callFunc K #[a0, a1]).run Tryz.prog u = .ok (.enter K #[a0, a1]) u) (h : Calls Tryz.prog K #[a0, a1] (w.alloc (errO 0)) fun r w' => r = .panicked (mis n) ∧ Q w')
    (hQ : ∀ w', Q w' → w'.heap[w.heap.size]? = some (errO 0)) : Calls Tryz.prog 35 #[.func (.func K) #[] #[a0, a1]] w fun r w' => r = .returned (.int .i64 n) ∧ ∃ w1, Q w1 ∧ w' = w1.setCell ⟨w.heap.size, 0, none⟩ (.int .i64 n) := by
  have hmf : ∀ (fn : Fn) (first cap : Array Value) (w : World), (Instr.makeFunc fn first cap).run Tryz.prog w = .ok (.func fn first cap) w := fun _ _ _ _ => rfl
  have HC : Hid (Calls Tryz.prog K #[a0, a1] (w.alloc (errO 0)) fun r w' => r = .panicked (mis n) ∧ Q w') := h
  have HQ : Hid (∀ w', Q w' → w'.heap[w.heap.size]? = some (errO 0)) := hQ
  clear h hQ
  go_enter_defers Tryz.func35, Tryz.ntmps35
  go_wp2_with fail
  refine HC.out.mono ?_
  rintro r w1 ⟨rfl, hq⟩
  have h1 := HQ.out w1 hq
  have d0 : w1.cell? ⟨w.heap.size, 0, none⟩ = some (.int .i64 0) := by rw [cell_of h1]; rfl
  have z0 : w1.frozen? ⟨w.heap.size, 0, none⟩ = false := frozen_of h1 0
  clear h1
  refine leaves_cons (f := 62) (args := #[.pointer (some ⟨w.heap.size, 0, none⟩)]) (by simp) (by simp [go_sem]) ?_
  refine (catch_panic ⟨w.heap.size, 0, none⟩ 0 n [] _ d0 z0).mono ?_
  rintro e u' w'' ⟨rfl, rfl, rfl⟩
  have e0 : (w1.setCell ⟨w.heap.size, 0, none⟩ (.int .i64 n)).cell? ⟨w.heap.size, 0, none⟩ = some (.int .i64 n) := World.cell?_setCell_same _ _ _ d0
  simp [Leaves, settle, results, Tryz.results35, go_sem, e0]
  exact ⟨w1, hq, rfl⟩

set_option maxRecDepth 100000 in
set_option maxHeartbeats 1000000 in
theorem done3_ok (K : FuncId) (a0 a1 a2 : Value) (w : World) (Q : World → Prop) (hE : ∀ u, (callFunc K #[a0, a1, a2]).run Tryz.prog u = .ok (.enter K #[a0, a1, a2]) u) (h : Calls Tryz.prog K #[a0, a1, a2] (w.alloc (errO 0)) fun r w' => r = .returned (.tuple #[]) ∧ Q w')
    (hQ : ∀ w', Q w' → w'.heap[w.heap.size]? = some (errO 0)) : Calls Tryz.prog 35 #[.func (.func K) #[] #[a0, a1, a2]] w fun r w' => r = .returned (.int .i64 0) ∧ ∃ w1, Q w1 ∧ w' = w1.setCell ⟨w.heap.size, 0, none⟩ (.int .i64 0) := by
  have hmf : ∀ (fn : Fn) (first cap : Array Value) (w : World), (Instr.makeFunc fn first cap).run Tryz.prog w = .ok (.func fn first cap) w := fun _ _ _ _ => rfl
  have HC : Hid (Calls Tryz.prog K #[a0, a1, a2] (w.alloc (errO 0)) fun r w' => r = .returned (.tuple #[]) ∧ Q w') := h
  have HQ : Hid (∀ w', Q w' → w'.heap[w.heap.size]? = some (errO 0)) := hQ
  clear h hQ
  go_enter_defers Tryz.func35, Tryz.ntmps35
  go_wp2_with fail
  refine HC.out.mono ?_
  rintro r w1 ⟨rfl, hq⟩
  have h1 := HQ.out w1 hq
  have d0 : w1.cell? ⟨w.heap.size, 0, none⟩ = some (.int .i64 0) := by rw [cell_of h1]; rfl
  have z0 : w1.frozen? ⟨w.heap.size, 0, none⟩ = false := frozen_of h1 0
  clear h1
  go_wp2_with fail
  refine leaves_cons (f := 62) (args := #[.pointer (some ⟨w.heap.size, 0, none⟩)]) (by simp) (by simp [go_sem]) ?_
  refine (catch_idle ⟨w.heap.size, 0, none⟩ _).mono ?_
  rintro e u' w'' ⟨rfl, rfl, rfl⟩
  have e0 : (w1.setCell ⟨w.heap.size, 0, none⟩ (.int .i64 0)).cell? ⟨w.heap.size, 0, none⟩ = some (.int .i64 0) := World.cell?_setCell_same _ _ _ d0
  simp [Leaves, settle, results, Tryz.results35, go_sem, e0]
  exact ⟨w1, hq, rfl⟩

set_option maxRecDepth 100000 in
set_option maxHeartbeats 1000000 in
theorem done3_err (K : FuncId) (a0 a1 a2 : Value) (n : Int) (w : World) (Q : World → Prop) (hE : ∀ u, (callFunc K #[a0, a1, a2]).run Tryz.prog u = .ok (.enter K #[a0, a1, a2]) u) (h : Calls Tryz.prog K #[a0, a1, a2] (w.alloc (errO 0)) fun r w' => r = .panicked (mis n) ∧ Q w')
    (hQ : ∀ w', Q w' → w'.heap[w.heap.size]? = some (errO 0)) : Calls Tryz.prog 35 #[.func (.func K) #[] #[a0, a1, a2]] w fun r w' => r = .returned (.int .i64 n) ∧ ∃ w1, Q w1 ∧ w' = w1.setCell ⟨w.heap.size, 0, none⟩ (.int .i64 n) := by
  have hmf : ∀ (fn : Fn) (first cap : Array Value) (w : World), (Instr.makeFunc fn first cap).run Tryz.prog w = .ok (.func fn first cap) w := fun _ _ _ _ => rfl
  have HC : Hid (Calls Tryz.prog K #[a0, a1, a2] (w.alloc (errO 0)) fun r w' => r = .panicked (mis n) ∧ Q w') := h
  have HQ : Hid (∀ w', Q w' → w'.heap[w.heap.size]? = some (errO 0)) := hQ
  clear h hQ
  go_enter_defers Tryz.func35, Tryz.ntmps35
  go_wp2_with fail
  refine HC.out.mono ?_
  rintro r w1 ⟨rfl, hq⟩
  have h1 := HQ.out w1 hq
  have d0 : w1.cell? ⟨w.heap.size, 0, none⟩ = some (.int .i64 0) := by rw [cell_of h1]; rfl
  have z0 : w1.frozen? ⟨w.heap.size, 0, none⟩ = false := frozen_of h1 0
  clear h1
  refine leaves_cons (f := 62) (args := #[.pointer (some ⟨w.heap.size, 0, none⟩)]) (by simp) (by simp [go_sem]) ?_
  refine (catch_panic ⟨w.heap.size, 0, none⟩ 0 n [] _ d0 z0).mono ?_
  rintro e u' w'' ⟨rfl, rfl, rfl⟩
  have e0 : (w1.setCell ⟨w.heap.size, 0, none⟩ (.int .i64 n)).cell? ⟨w.heap.size, 0, none⟩ = some (.int .i64 n) := World.cell?_setCell_same _ _ _ d0
  simp [Leaves, settle, results, Tryz.results35, go_sem, e0]
  exact ⟨w1, hq, rfl⟩
end Go.Proofs.YtigegdelhpdlhaaGreatDoor

/- Layer 18's face: done, as what becomes of an object. -/
namespace Go.Proofs.YtigegdelhpdlhaaGreatDoor
open Go.RowKit

/-- what a call makes of an object, with a cell of a new block written behind it -/
theorem Goes.wrap {I' : World → (Nat → Prop) → Prop} (R : Res I') {w w1 : World} {F : Nat → Prop} (hF : ∀ i, F i → i < w.heap.size) (o : Obj) (h : Goes I' (w.alloc o) w1 F) (v : Value) : Goes I' w (w1.setCell ⟨w.heap.size, 0, none⟩ v) F := by
  obtain ⟨F', h1, h2, h3⟩ := h
  have hs : (w.alloc o).heap.size = w.heap.size + 1 := World.size_alloc w o
  have ht : Turn (fun i => i = w.heap.size) w1 (w1.setCell ⟨w.heap.size, 0, none⟩ v) := Turn.setCell w1 ⟨w.heap.size, 0, none⟩ v rfl
  have hn : ¬ F' w.heap.size := fun hf => by
    rcases h3 _ hf with h | h
    · exact Nat.lt_irrefl _ (hF _ h)
    · omega
  refine ⟨F', R.kept h1 ht (fun i hi e => hn (e ▸ hi)), ?_, fun i hi => ?_⟩
  · have ha : Turn F w (w.alloc o) := Turn.alloc w o
    exact (ha.trans h2).transNew ht (fun i e => Or.inr (Nat.le_of_eq e.symm))
  · rcases h3 i hi with h | h
    · exact Or.inl h
    · exact Or.inr (by omega)
theorem goes_keeps {I' : World → (Nat → Prop) → Prop} {w w1 : World} {F : Nat → Prop} (hF : ∀ i, F i → i < w.heap.size) (o : Obj) (h : Goes I' (w.alloc o) w1 F) : w1.heap[w.heap.size]? = some o := by
  obtain ⟨F', h1, h2, h3⟩ := h
  exact (h2.block w.heap.size (by simp) (fun hf => Nat.lt_irrefl _ (hF _ hf))).trans (heap_new w o)

theorem done2_goes_ok {I' : World → (Nat → Prop) → Prop} {F : Nat → Prop} (R : Res I') (K : FuncId) (a0 a1 : Value) (w : World) (hF : ∀ i, F i → i < w.heap.size) (hE : ∀ u, (callFunc K #[a0, a1]).run Tryz.prog u = .ok (.enter K #[a0, a1]) u)
    (h : ∀ u, Below w.heap.size w u → Calls Tryz.prog K #[a0, a1] u fun r w' => r = .returned (.tuple #[]) ∧ Goes I' u w' F) : Calls Tryz.prog 35 #[.func (.func K) #[] #[a0, a1]] w fun r w' => r = .returned (.int .i64 0) ∧ Goes I' w w' F :=
  (done2_ok K a0 a1 w (fun w' => Goes I' (w.alloc (errO 0)) w' F) hE (h _ ((Below.refl _ _).alloc (Nat.le_refl _) _)) (fun w' hg => goes_keeps hF _ hg)).mono fun r w' ⟨e1, w1, hg, e2⟩ => ⟨e1, by rw [e2]; exact hg.wrap R hF _ _⟩

theorem done2_goes_err {I' : World → (Nat → Prop) → Prop} {F : Nat → Prop} (R : Res I') (K : FuncId) (a0 a1 : Value) (n : Int) (w : World) (hF : ∀ i, F i → i < w.heap.size) (hE : ∀ u, (callFunc K #[a0, a1]).run Tryz.prog u = .ok (.enter K #[a0, a1]) u)
    (h : ∀ u, Below w.heap.size w u → Calls Tryz.prog K #[a0, a1] u fun r w' => r = .panicked (mis n) ∧ Goes I' u w' F) : Calls Tryz.prog 35 #[.func (.func K) #[] #[a0, a1]] w fun r w' => r = .returned (.int .i64 n) ∧ Goes I' w w' F :=
  (done2_err K a0 a1 n w (fun w' => Goes I' (w.alloc (errO 0)) w' F) hE (h _ ((Below.refl _ _).alloc (Nat.le_refl _) _)) (fun w' hg => goes_keeps hF _ hg)).mono fun r w' ⟨e1, w1, hg, e2⟩ => ⟨e1, by rw [e2]; exact hg.wrap R hF _ _⟩

theorem done3_goes_ok {I' : World → (Nat → Prop) → Prop} {F : Nat → Prop} (R : Res I') (K : FuncId) (a0 a1 a2 : Value) (w : World) (hF : ∀ i, F i → i < w.heap.size) (hE : ∀ u, (callFunc K #[a0, a1, a2]).run Tryz.prog u = .ok (.enter K #[a0, a1, a2]) u)
    (h : ∀ u, Below w.heap.size w u → Calls Tryz.prog K #[a0, a1, a2] u fun r w' => r = .returned (.tuple #[]) ∧ Goes I' u w' F) : Calls Tryz.prog 35 #[.func (.func K) #[] #[a0, a1, a2]] w fun r w' => r = .returned (.int .i64 0) ∧ Goes I' w w' F :=
  (done3_ok K a0 a1 a2 w (fun w' => Goes I' (w.alloc (errO 0)) w' F) hE (h _ ((Below.refl _ _).alloc (Nat.le_refl _) _)) (fun w' hg => goes_keeps hF _ hg)).mono fun r w' ⟨e1, w1, hg, e2⟩ => ⟨e1, by rw [e2]; exact hg.wrap R hF _ _⟩

theorem done3_goes_err {I' : World → (Nat → Prop) → Prop} {F : Nat → Prop} (R : Res I') (K : FuncId) (a0 a1 a2 : Value) (n : Int) (w : World) (hF : ∀ i, F i → i < w.heap.size) (hE : ∀ u, (callFunc K #[a0, a1, a2]).run Tryz.prog u = .ok (.enter K #[a0, a1, a2]) u)
    (h : ∀ u, Below w.heap.size w u → Calls Tryz.prog K #[a0, a1, a2] u fun r w' => r = .panicked (mis n) ∧ Goes I' u w' F) : Calls Tryz.prog 35 #[.func (.func K) #[] #[a0, a1, a2]] w fun r w' => r = .returned (.int .i64 n) ∧ Goes I' w w' F :=
  (done3_err K a0 a1 a2 n w (fun w' => Goes I' (w.alloc (errO 0)) w' F) hE (h _ ((Below.refl _ _).alloc (Nat.le_refl _) _)) (fun w' hg => goes_keeps hF _ hg)).mono fun r w' ⟨e1, w1, hg, e2⟩ => ⟨e1, by rw [e2]; exact hg.wrap R hF _ _⟩
end Go.Proofs.YtigegdelhpdlhaaGreatDoor
