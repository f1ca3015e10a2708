import Derived.Test.YtigegdelhpdlhaaGreatDoorJRd3J
import Derived.Shelf.Abstract
/- Layer 18's face: told, at a log and at a number. -/
namespace Go.Proofs.YtigegdelhpdlhaaGreatDoor
open Go.RowKit

/-- an object, and a block of the caller's own beside it -/
def Wth (I : World → (Nat → Prop) → Prop) (y : Nat) (o : Obj) (w : World) (F : Nat → Prop) : Prop := ∃ F0, I w F0 ∧ w.heap[y]? = some o ∧ ¬ F0 y ∧ ∀ i, F i ↔ (F0 i ∨ i = y)
theorem Wth.res {I : World → (Nat → Prop) → Prop} (R : Res I) (y : Nat) (o : Obj) : Res (Wth I y o) := by
  refine ⟨fun {w F} h i hi => ?_, fun {w w' F S} h ht hS => ?_⟩
  · obtain ⟨F0, h1, h2, _, h4⟩ := h
    rcases (h4 i).1 hi with h | h
    · exact R.lt h1 i h
    · rw [h]; exact lt_of h2
  · obtain ⟨F0, h1, h2, h3, h4⟩ := h
    exact ⟨F0, R.kept h1 ht (fun i hi => hS i ((h4 i).2 (Or.inl hi))), (ht.block y (lt_of h2) (hS y ((h4 y).2 (Or.inr rfl)))).trans h2, h3, h4⟩
theorem wth_ok {I' : World → (Nat → Prop) → Prop} (R : Res I') {u w1 : World} {F : Nat → Prop} {y : Nat} {z v : Value} {T : TypeId} (hy : u.heap[y]? = some (.cells #[z] T (0, 0))) (hFy : ¬ F y) (h : Goes I' u w1 F) :
    Goes (Wth I' y (.cells #[v] T (0, 0))) u (w1.setCell ⟨y, 0, none⟩ v) (fun i => F i ∨ i = y) := by
  obtain ⟨F', h1, h2, h3⟩ := h
  have hl := lt_of hy
  have hn : ¬ F' y := fun hf => by
    rcases h3 _ hf with h | h
    · exact hFy h
    · omega
  have hy1 := (h2.block y hl hFy).trans hy
  have ht : Turn (fun i => i = y) w1 (w1.setCell ⟨y, 0, none⟩ v) := Turn.setCell w1 ⟨y, 0, none⟩ v rfl
  refine ⟨fun i => F' i ∨ i = y, ⟨F', R.kept h1 ht (fun i hi e => hn (e ▸ hi)), ?_, hn, fun _ => Iff.rfl⟩, (h2.mono fun i hi => Or.inl hi).trans (ht.mono fun i hi => Or.inr hi), fun i hi => ?_⟩
  · rw [heap_setCell_same hy1]; rfl
  · rcases hi with hi | hi
    · rcases h3 i hi with h | h
      · exact Or.inl (Or.inl h)
      · exact Or.inr h
    · exact Or.inl (Or.inr hi)
theorem wth_err {I' : World → (Nat → Prop) → Prop} {u w1 : World} {F : Nat → Prop} {y : Nat} {z : Value} {T : TypeId} (hy : u.heap[y]? = some (.cells #[z] T (0, 0))) (hFy : ¬ F y) (h : Goes I' u w1 F) :
    Goes (Wth I' y (.cells #[z] T (0, 0))) u w1 (fun i => F i ∨ i = y) := by
  obtain ⟨F', h1, h2, h3⟩ := h
  have hl := lt_of hy
  have hn : ¬ F' y := fun hf => by
    rcases h3 _ hf with h | h
    · exact hFy h
    · omega
  refine ⟨fun i => F' i ∨ i = y, ⟨F', h1, (h2.block y hl hFy).trans hy, hn, fun _ => Iff.rfl⟩, h2.mono fun i hi => Or.inl hi, fun i hi => ?_⟩
  rcases hi with hi | hi
  · rcases h3 i hi with h | h
    · exact Or.inl (Or.inl h)
    · exact Or.inr h
  · exact Or.inl (Or.inr hi)
/-- told's own two blocks let go of -/
theorem wth_end {I' : World → (Nat → Prop) → Prop} (R : Res I') {w w2 : World} {F : Nat → Prop} {o1 o2 o : Obj} (v : Value) (h : Goes (Wth I' (w.heap.size + 1) o) ((w.alloc o1).alloc o2) w2 (fun i => F i ∨ i = w.heap.size + 1)) :
    Goes I' w (w2.setCell ⟨w.heap.size + 1, 0, none⟩ v) F := by
  obtain ⟨F', ⟨F0, h1, h2, h3, h4⟩, h5, h6⟩ := h
  have hs : ((w.alloc o1).alloc o2).heap.size = w.heap.size + 2 := by simp
  have ht : Turn (fun i => i = w.heap.size + 1) w2 (w2.setCell ⟨w.heap.size + 1, 0, none⟩ v) := Turn.setCell w2 ⟨w.heap.size + 1, 0, none⟩ v rfl
  have ha : Turn F w ((w.alloc o1).alloc o2) := (Turn.alloc w o1).trans (Turn.alloc _ o2)
  refine ⟨F0, R.kept h1 ht (fun i hi e => h3 (e ▸ hi)), ?_, fun i hi => ?_⟩
  · refine (ha.transNew h5 (fun i hi => ?_)).transNew ht (fun i e => Or.inr (by rw [e]; omega))
    rcases hi with hi | hi
    · exact Or.inl hi
    · exact Or.inr (by rw [hi]; omega)
  · rcases h6 i ((h4 i).2 (Or.inl hi)) with h | h
    · rcases h with h | h
      · exact Or.inl h
      · exact Or.inr (by rw [h]; omega)
    · exact Or.inr (by omega)

set_option maxRecDepth 100000 in
set_option maxHeartbeats 1000000 in
theorem toldL1A_ok {I' : World → (Nat → Prop) → Prop} {F : Nat → Prop} (R : Res I') (K : FuncId) (a b : Value) (p : Nat) (u : World) (x y : Nat) (hx : u.heap[x]? = some (.cells #[.func (.func K) #[] #[a, b]] 70 (0, 0))) (hy : u.heap[y]? = some (.cells #[.pointer none] 29 (0, 0))) (hFy : ¬ F y)
    (hE : ∀ u, (callFunc K #[a, b]).run Tryz.prog u = .ok (.enter K #[a, b]) u) (h : Calls Tryz.prog K #[a, b] u fun r w' => r = .returned (.pointer (some ⟨p, 0, none⟩)) ∧ Goes I' u w' F) :
    Calls Tryz.prog 54 #[.pointer (some ⟨x, 0, none⟩), .pointer (some ⟨y, 0, none⟩)] u fun r w' => r = .returned (.tuple #[]) ∧ Goes (Wth I' y (.cells #[.pointer (some ⟨p, 0, none⟩)] 29 (0, 0))) u w' (fun i => F i ∨ i = y) := by
  have HC : Hid (Calls Tryz.prog K #[a, b] u fun r w' => r = .returned (.pointer (some ⟨p, 0, none⟩)) ∧ Goes I' u w' F) := h
  have HY : Hid (u.heap[y]? = some (.cells #[.pointer none] 29 (0, 0))) := hy
  have dx : u.cell? ⟨x, 0, none⟩ = some (.func (.func K) #[] #[a, b]) := by rw [cell_of hx]; rfl
  have hl := lt_of hy
  clear h hx hy
  go_enter Tryz.func54, Tryz.ntmps54
  go_wp2_with fail
  refine HC.out.mono ?_
  rintro r w1 ⟨rfl, hg⟩
  have hy1 : w1.heap[y]? = some (.cells #[.pointer none] 29 (0, 0)) := by
    obtain ⟨F', h1, h2, h3⟩ := id hg
    exact (h2.block y hl hFy).trans HY.out
  have dy : w1.cell? ⟨y, 0, none⟩ = some (.pointer none) := by rw [cell_of hy1]; rfl
  have zy : w1.frozen? ⟨y, 0, none⟩ = false := frozen_of hy1 0
  have HG : Hid (Goes (Wth I' y (.cells #[.pointer (some ⟨p, 0, none⟩)] 29 (0, 0))) u (w1.setCell ⟨y, 0, none⟩ (.pointer (some ⟨p, 0, none⟩))) (fun i => F i ∨ i = y)) := wth_ok R HY.out hFy hg
  clear hy1 hg
  go_wp2_with fail
  go_returns
  exact ⟨rfl, HG.out⟩

set_option maxRecDepth 100000 in
set_option maxHeartbeats 1000000 in
theorem toldL1A_err {I' : World → (Nat → Prop) → Prop} {F : Nat → Prop} (K : FuncId) (a b : Value) (n : Int) (u : World) (x y : Nat) (hx : u.heap[x]? = some (.cells #[.func (.func K) #[] #[a, b]] 70 (0, 0))) (hy : u.heap[y]? = some (.cells #[.pointer none] 29 (0, 0))) (hFy : ¬ F y)
    (hE : ∀ u, (callFunc K #[a, b]).run Tryz.prog u = .ok (.enter K #[a, b]) u) (h : Calls Tryz.prog K #[a, b] u fun r w' => r = .panicked (mis n) ∧ Goes I' u w' F) :
    Calls Tryz.prog 54 #[.pointer (some ⟨x, 0, none⟩), .pointer (some ⟨y, 0, none⟩)] u fun r w' => r = .panicked (mis n) ∧ Goes (Wth I' y (.cells #[.pointer none] 29 (0, 0))) u w' (fun i => F i ∨ i = y) := by
  have HC : Hid (Calls Tryz.prog K #[a, b] u fun r w' => r = .panicked (mis n) ∧ Goes I' u w' F) := h
  have HY : Hid (u.heap[y]? = some (.cells #[.pointer none] 29 (0, 0))) := hy
  have dx : u.cell? ⟨x, 0, none⟩ = some (.func (.func K) #[] #[a, b]) := by rw [cell_of hx]; rfl
  have hl := lt_of hy
  clear h hx hy
  go_enter Tryz.func54, Tryz.ntmps54
  go_wp2_with fail
  refine HC.out.mono ?_
  rintro r w1 ⟨rfl, hg⟩
  exact ⟨rfl, rfl, wth_err HY.out hFy hg⟩

set_option maxRecDepth 100000 in
set_option maxHeartbeats 1000000 in
theorem toldI1A_ok {I' : World → (Nat → Prop) → Prop} {F : Nat → Prop} (R : Res I') (K : FuncId) (a b : Value) (z : Int) (u : World) (x y : Nat) (hx : u.heap[x]? = some (.cells #[.func (.func K) #[] #[a, b]] 72 (0, 0))) (hy : u.heap[y]? = some (.cells #[.int .i64 0] 3 (0, 0))) (hFy : ¬ F y)
    (hE : ∀ u, (callFunc K #[a, b]).run Tryz.prog u = .ok (.enter K #[a, b]) u) (h : Calls Tryz.prog K #[a, b] u fun r w' => r = .returned (.int .i64 z) ∧ Goes I' u w' F) :
    Calls Tryz.prog 58 #[.pointer (some ⟨x, 0, none⟩), .pointer (some ⟨y, 0, none⟩)] u fun r w' => r = .returned (.tuple #[]) ∧ Goes (Wth I' y (.cells #[.int .i64 z] 3 (0, 0))) u w' (fun i => F i ∨ i = y) := by
  have HC : Hid (Calls Tryz.prog K #[a, b] u fun r w' => r = .returned (.int .i64 z) ∧ Goes I' u w' F) := h
  have HY : Hid (u.heap[y]? = some (.cells #[.int .i64 0] 3 (0, 0))) := hy
  have dx : u.cell? ⟨x, 0, none⟩ = some (.func (.func K) #[] #[a, b]) := by rw [cell_of hx]; rfl
  have hl := lt_of hy
  clear h hx hy
  go_enter Tryz.func58, Tryz.ntmps58
  go_wp2_with fail
  refine HC.out.mono ?_
  rintro r w1 ⟨rfl, hg⟩
  have hy1 : w1.heap[y]? = some (.cells #[.int .i64 0] 3 (0, 0)) := by
    obtain ⟨F', h1, h2, h3⟩ := id hg
    exact (h2.block y hl hFy).trans HY.out
  have dy : w1.cell? ⟨y, 0, none⟩ = some (.int .i64 0) := by rw [cell_of hy1]; rfl
  have zy : w1.frozen? ⟨y, 0, none⟩ = false := frozen_of hy1 0
  have HG : Hid (Goes (Wth I' y (.cells #[.int .i64 z] 3 (0, 0))) u (w1.setCell ⟨y, 0, none⟩ (.int .i64 z)) (fun i => F i ∨ i = y)) := wth_ok R HY.out hFy hg
  clear hy1 hg
  go_wp2_with fail
  go_returns
  exact ⟨rfl, HG.out⟩

set_option maxRecDepth 100000 in
set_option maxHeartbeats 1000000 in
theorem toldI1A_err {I' : World → (Nat → Prop) → Prop} {F : Nat → Prop} (K : FuncId) (a b : Value) (n : Int) (u : World) (x y : Nat) (hx : u.heap[x]? = some (.cells #[.func (.func K) #[] #[a, b]] 72 (0, 0))) (hy : u.heap[y]? = some (.cells #[.int .i64 0] 3 (0, 0))) (hFy : ¬ F y)
    (hE : ∀ u, (callFunc K #[a, b]).run Tryz.prog u = .ok (.enter K #[a, b]) u) (h : Calls Tryz.prog K #[a, b] u fun r w' => r = .panicked (mis n) ∧ Goes I' u w' F) :
    Calls Tryz.prog 58 #[.pointer (some ⟨x, 0, none⟩), .pointer (some ⟨y, 0, none⟩)] u fun r w' => r = .panicked (mis n) ∧ Goes (Wth I' y (.cells #[.int .i64 0] 3 (0, 0))) u w' (fun i => F i ∨ i = y) := by
  have HC : Hid (Calls Tryz.prog K #[a, b] u fun r w' => r = .panicked (mis n) ∧ Goes I' u w' F) := h
  have HY : Hid (u.heap[y]? = some (.cells #[.int .i64 0] 3 (0, 0))) := hy
  have dx : u.cell? ⟨x, 0, none⟩ = some (.func (.func K) #[] #[a, b]) := by rw [cell_of hx]; rfl
  have hl := lt_of hy
  clear h hx hy
  go_enter Tryz.func58, Tryz.ntmps58
  go_wp2_with fail
  refine HC.out.mono ?_
  rintro r w1 ⟨rfl, hg⟩
  exact ⟨rfl, rfl, wth_err HY.out hFy hg⟩

set_option maxRecDepth 100000 in
set_option maxHeartbeats 1000000 in
theorem toldI1B_ok {I' : World → (Nat → Prop) → Prop} {F : Nat → Prop} (R : Res I') (K : FuncId) (a : Value) (z : Int) (u : World) (x y : Nat) (hx : u.heap[x]? = some (.cells #[.func (.func K) #[a] #[]] 72 (0, 0))) (hy : u.heap[y]? = some (.cells #[.int .i64 0] 3 (0, 0))) (hFy : ¬ F y)
    (hE : ∀ u, (callFunc K #[a]).run Tryz.prog u = .ok (.enter K #[a]) u) (h : Calls Tryz.prog K #[a] u fun r w' => r = .returned (.int .i64 z) ∧ Goes I' u w' F) :
    Calls Tryz.prog 58 #[.pointer (some ⟨x, 0, none⟩), .pointer (some ⟨y, 0, none⟩)] u fun r w' => r = .returned (.tuple #[]) ∧ Goes (Wth I' y (.cells #[.int .i64 z] 3 (0, 0))) u w' (fun i => F i ∨ i = y) := by
  have HC : Hid (Calls Tryz.prog K #[a] u fun r w' => r = .returned (.int .i64 z) ∧ Goes I' u w' F) := h
  have HY : Hid (u.heap[y]? = some (.cells #[.int .i64 0] 3 (0, 0))) := hy
  have dx : u.cell? ⟨x, 0, none⟩ = some (.func (.func K) #[a] #[]) := by rw [cell_of hx]; rfl
  have hl := lt_of hy
  clear h hx hy
  go_enter Tryz.func58, Tryz.ntmps58
  go_wp2_with fail
  refine HC.out.mono ?_
  rintro r w1 ⟨rfl, hg⟩
  have hy1 : w1.heap[y]? = some (.cells #[.int .i64 0] 3 (0, 0)) := by
    obtain ⟨F', h1, h2, h3⟩ := id hg
    exact (h2.block y hl hFy).trans HY.out
  have dy : w1.cell? ⟨y, 0, none⟩ = some (.int .i64 0) := by rw [cell_of hy1]; rfl
  have zy : w1.frozen? ⟨y, 0, none⟩ = false := frozen_of hy1 0
  have HG : Hid (Goes (Wth I' y (.cells #[.int .i64 z] 3 (0, 0))) u (w1.setCell ⟨y, 0, none⟩ (.int .i64 z)) (fun i => F i ∨ i = y)) := wth_ok R HY.out hFy hg
  clear hy1 hg
  go_wp2_with fail
  go_returns
  exact ⟨rfl, HG.out⟩

set_option maxRecDepth 100000 in
set_option maxHeartbeats 1000000 in
theorem toldI1B_err {I' : World → (Nat → Prop) → Prop} {F : Nat → Prop} (K : FuncId) (a : Value) (n : Int) (u : World) (x y : Nat) (hx : u.heap[x]? = some (.cells #[.func (.func K) #[a] #[]] 72 (0, 0))) (hy : u.heap[y]? = some (.cells #[.int .i64 0] 3 (0, 0))) (hFy : ¬ F y)
    (hE : ∀ u, (callFunc K #[a]).run Tryz.prog u = .ok (.enter K #[a]) u) (h : Calls Tryz.prog K #[a] u fun r w' => r = .panicked (mis n) ∧ Goes I' u w' F) :
    Calls Tryz.prog 58 #[.pointer (some ⟨x, 0, none⟩), .pointer (some ⟨y, 0, none⟩)] u fun r w' => r = .panicked (mis n) ∧ Goes (Wth I' y (.cells #[.int .i64 0] 3 (0, 0))) u w' (fun i => F i ∨ i = y) := by
  have HC : Hid (Calls Tryz.prog K #[a] u fun r w' => r = .panicked (mis n) ∧ Goes I' u w' F) := h
  have HY : Hid (u.heap[y]? = some (.cells #[.int .i64 0] 3 (0, 0))) := hy
  have dx : u.cell? ⟨x, 0, none⟩ = some (.func (.func K) #[a] #[]) := by rw [cell_of hx]; rfl
  have hl := lt_of hy
  clear h hx hy
  go_enter Tryz.func58, Tryz.ntmps58
  go_wp2_with fail
  refine HC.out.mono ?_
  rintro r w1 ⟨rfl, hg⟩
  exact ⟨rfl, rfl, wth_err HY.out hFy hg⟩

set_option maxRecDepth 100000 in
set_option maxHeartbeats 1000000 in
theorem toldLA_ok {I' : World → (Nat → Prop) → Prop} {F : Nat → Prop} (R : Res I') (K : FuncId) (a b : Value) (p : Nat) (w : World) (hF : ∀ i, F i → i < w.heap.size) (hE : ∀ u, (callFunc K #[a, b]).run Tryz.prog u = .ok (.enter K #[a, b]) u)
    (h : ∀ u, Below w.heap.size w u → Calls Tryz.prog K #[a, b] u fun r w' => r = .returned (.pointer (some ⟨p, 0, none⟩)) ∧ Goes I' u w' F) :
    Calls Tryz.prog 27 #[.func (.func K) #[] #[a, b]] w fun r w' => r = .returned (.tuple #[.pointer (some ⟨p, 0, none⟩), .int .i64 0]) ∧ Goes I' w w' F := by
  have hmf : ∀ (fn : Fn) (first cap : Array Value) (w : World), (Instr.makeFunc fn first cap).run Tryz.prog w = .ok (.func fn first cap) w := fun _ _ _ _ => rfl
  obtain ⟨q, hq⟩ : ∃ q, w.heap.size = q := ⟨_, rfl⟩
  have hn1 := heap_new w (.cells #[.func (.func K) #[] #[a, b]] 70)
  have hn2 := heap_new (w.alloc (.cells #[.func (.func K) #[] #[a, b]] 70)) (.cells #[.pointer none] 29)
  have hn3 := (Below.heap_alloc (w.alloc (.cells #[.func (.func K) #[] #[a, b]] 70)) (.cells #[.pointer none] 29) w.heap.size (by simp)).trans hn1
  rw [World.size_alloc, hq] at hn2
  rw [hq] at hn3
  have hsz : ((w.alloc (.cells #[.func (.func K) #[] #[a, b]] 70)).alloc (.cells #[.pointer none] 29)).heap.size = q + 2 := by simp; omega
  have hbT : Below w.heap.size w ((w.alloc (.cells #[.func (.func K) #[] #[a, b]] 70)).alloc (.cells #[.pointer none] 29)) := ((Below.refl _ _).alloc (Nat.le_refl _) _).alloc (by simp) _
  obtain ⟨wT, hwT⟩ : ∃ u, (w.alloc (.cells #[.func (.func K) #[] #[a, b]] 70)).alloc (.cells #[.pointer none] 29) = u := ⟨_, rfl⟩
  rw [hwT] at hn2 hn3 hsz hbT
  have HD : Hid (Calls Tryz.prog 35 #[.func (.func 54) #[] #[.pointer (some ⟨q, 0, none⟩), .pointer (some ⟨q + 1, 0, none⟩)]] wT fun r w' => r = .returned (.int .i64 0) ∧ Goes (Wth I' (q + 1) (.cells #[.pointer (some ⟨p, 0, none⟩)] 29 (0, 0))) wT w' (fun i => F i ∨ i = q + 1)) := by
    refine done2_goes_ok (Wth.res R _ _) 54 _ _ wT (fun i hi => ?_) (enters_of Tryz.func54 (by kernel_rfl) rfl _) (fun u hu => ?_)
    · rcases hi with hi | hi
      · have := hF i hi; omega
      · omega
    · refine toldL1A_ok R K a b p u q (q + 1) ((hu.block _ (by omega)).trans hn3) ((hu.block _ (by omega)).trans hn2) (fun hf => ?_) hE (h u (hbT.trans (hu.mono (by omega))))
      have := hF _ hf
      omega
  have HE : Hid (∀ w2, Goes (Wth I' (q + 1) (.cells #[.pointer (some ⟨p, 0, none⟩)] 29 (0, 0))) wT w2 (fun i => F i ∨ i = q + 1) → w2.heap[q + 1]? = some (.cells #[.pointer (some ⟨p, 0, none⟩)] 29 (0, 0)) ∧ Goes I' w (w2.setCell ⟨q + 1, 0, none⟩ (.pointer (some ⟨p, 0, none⟩))) F) := fun w2 hg => by
    refine ⟨?_, ?_⟩
    · obtain ⟨_, ⟨_, _, h2, _, _⟩, _, _⟩ := id hg
      exact h2
    · subst hq
      rw [← hwT] at hg
      exact wth_end R (.pointer (some ⟨p, 0, none⟩)) hg
  have HW : Hid ((w.alloc (.cells #[.func (.func K) #[] #[a, b]] 70)).alloc (.cells #[.pointer none] 29) = wT) := hwT
  clear h hn1 hn2 hn3 hsz hbT hwT hF
  go_enter Tryz.func27, Tryz.ntmps27
  go_wp2_with fail
  rw [HW.out]
  refine HD.out.mono ?_
  rintro r w2 ⟨rfl, hg⟩
  obtain ⟨hy2, hg2⟩ := HE.out w2 hg
  have HG2 : Hid (Goes I' w (w2.setCell ⟨q + 1, 0, none⟩ (.pointer (some ⟨p, 0, none⟩))) F) := hg2
  have dy : w2.cell? ⟨q + 1, 0, none⟩ = some (.pointer (some ⟨p, 0, none⟩)) := by rw [cell_of hy2]; rfl
  have zy : w2.frozen? ⟨q + 1, 0, none⟩ = false := frozen_of hy2 0
  clear hy2 hg hg2
  have e2 : (w2.setCell ⟨q + 1, 0, none⟩ (.pointer (some ⟨p, 0, none⟩))).cell? ⟨q + 1, 0, none⟩ = some (.pointer (some ⟨p, 0, none⟩)) := World.cell?_setCell_same _ _ _ dy
  go_wp2_with fail
  refine bodyPost_ret (v := .tuple #[.pointer (some ⟨p, 0, none⟩), .int .i64 0]) (by simp [results, Tryz.results27, go_sem, e2]) rfl ⟨rfl, HG2.out⟩

set_option maxRecDepth 100000 in
set_option maxHeartbeats 1000000 in
theorem toldLA_err {I' : World → (Nat → Prop) → Prop} {F : Nat → Prop} (R : Res I') (K : FuncId) (a b : Value) (n : Int) (w : World) (hF : ∀ i, F i → i < w.heap.size) (hE : ∀ u, (callFunc K #[a, b]).run Tryz.prog u = .ok (.enter K #[a, b]) u)
    (h : ∀ u, Below w.heap.size w u → Calls Tryz.prog K #[a, b] u fun r w' => r = .panicked (mis n) ∧ Goes I' u w' F) :
    Calls Tryz.prog 27 #[.func (.func K) #[] #[a, b]] w fun r w' => r = .returned (.tuple #[.pointer none, .int .i64 n]) ∧ Goes I' w w' F := by
  have hmf : ∀ (fn : Fn) (first cap : Array Value) (w : World), (Instr.makeFunc fn first cap).run Tryz.prog w = .ok (.func fn first cap) w := fun _ _ _ _ => rfl
  obtain ⟨q, hq⟩ : ∃ q, w.heap.size = q := ⟨_, rfl⟩
  have hn1 := heap_new w (.cells #[.func (.func K) #[] #[a, b]] 70)
  have hn2 := heap_new (w.alloc (.cells #[.func (.func K) #[] #[a, b]] 70)) (.cells #[.pointer none] 29)
  have hn3 := (Below.heap_alloc (w.alloc (.cells #[.func (.func K) #[] #[a, b]] 70)) (.cells #[.pointer none] 29) w.heap.size (by simp)).trans hn1
  rw [World.size_alloc, hq] at hn2
  rw [hq] at hn3
  have hsz : ((w.alloc (.cells #[.func (.func K) #[] #[a, b]] 70)).alloc (.cells #[.pointer none] 29)).heap.size = q + 2 := by simp; omega
  have hbT : Below w.heap.size w ((w.alloc (.cells #[.func (.func K) #[] #[a, b]] 70)).alloc (.cells #[.pointer none] 29)) := ((Below.refl _ _).alloc (Nat.le_refl _) _).alloc (by simp) _
  obtain ⟨wT, hwT⟩ : ∃ u, (w.alloc (.cells #[.func (.func K) #[] #[a, b]] 70)).alloc (.cells #[.pointer none] 29) = u := ⟨_, rfl⟩
  rw [hwT] at hn2 hn3 hsz hbT
  have HD : Hid (Calls Tryz.prog 35 #[.func (.func 54) #[] #[.pointer (some ⟨q, 0, none⟩), .pointer (some ⟨q + 1, 0, none⟩)]] wT fun r w' => r = .returned (.int .i64 n) ∧ Goes (Wth I' (q + 1) (.cells #[.pointer none] 29 (0, 0))) wT w' (fun i => F i ∨ i = q + 1)) := by
    refine done2_goes_err (Wth.res R _ _) 54 _ _ n wT (fun i hi => ?_) (enters_of Tryz.func54 (by kernel_rfl) rfl _) (fun u hu => ?_)
    · rcases hi with hi | hi
      · have := hF i hi; omega
      · omega
    · refine toldL1A_err K a b n u q (q + 1) ((hu.block _ (by omega)).trans hn3) ((hu.block _ (by omega)).trans hn2) (fun hf => ?_) hE (h u (hbT.trans (hu.mono (by omega))))
      have := hF _ hf
      omega
  have HE : Hid (∀ w2, Goes (Wth I' (q + 1) (.cells #[.pointer none] 29 (0, 0))) wT w2 (fun i => F i ∨ i = q + 1) → w2.heap[q + 1]? = some (.cells #[.pointer none] 29 (0, 0)) ∧ Goes I' w (w2.setCell ⟨q + 1, 0, none⟩ (.pointer none)) F) := fun w2 hg => by
    refine ⟨?_, ?_⟩
    · obtain ⟨_, ⟨_, _, h2, _, _⟩, _, _⟩ := id hg
      exact h2
    · subst hq
      rw [← hwT] at hg
      exact wth_end R (.pointer none) hg
  have HW : Hid ((w.alloc (.cells #[.func (.func K) #[] #[a, b]] 70)).alloc (.cells #[.pointer none] 29) = wT) := hwT
  clear h hn1 hn2 hn3 hsz hbT hwT hF
  go_enter Tryz.func27, Tryz.ntmps27
  go_wp2_with fail
  rw [HW.out]
  refine HD.out.mono ?_
  rintro r w2 ⟨rfl, hg⟩
  obtain ⟨hy2, hg2⟩ := HE.out w2 hg
  have HG2 : Hid (Goes I' w (w2.setCell ⟨q + 1, 0, none⟩ (.pointer none)) F) := hg2
  have dy : w2.cell? ⟨q + 1, 0, none⟩ = some (.pointer none) := by rw [cell_of hy2]; rfl
  have zy : w2.frozen? ⟨q + 1, 0, none⟩ = false := frozen_of hy2 0
  clear hy2 hg hg2
  have e2 : (w2.setCell ⟨q + 1, 0, none⟩ (.pointer none)).cell? ⟨q + 1, 0, none⟩ = some (.pointer none) := World.cell?_setCell_same _ _ _ dy
  go_wp2_with fail
  refine bodyPost_ret (v := .tuple #[.pointer none, .int .i64 n]) (by simp [results, Tryz.results27, go_sem, e2]) rfl ⟨rfl, HG2.out⟩

set_option maxRecDepth 100000 in
set_option maxHeartbeats 1000000 in
theorem toldIA_ok {I' : World → (Nat → Prop) → Prop} {F : Nat → Prop} (R : Res I') (K : FuncId) (a b : Value) (z : Int) (w : World) (hF : ∀ i, F i → i < w.heap.size) (hE : ∀ u, (callFunc K #[a, b]).run Tryz.prog u = .ok (.enter K #[a, b]) u)
    (h : ∀ u, Below w.heap.size w u → Calls Tryz.prog K #[a, b] u fun r w' => r = .returned (.int .i64 z) ∧ Goes I' u w' F) :
    Calls Tryz.prog 30 #[.func (.func K) #[] #[a, b]] w fun r w' => r = .returned (.tuple #[.int .i64 z, .int .i64 0]) ∧ Goes I' w w' F := by
  have hmf : ∀ (fn : Fn) (first cap : Array Value) (w : World), (Instr.makeFunc fn first cap).run Tryz.prog w = .ok (.func fn first cap) w := fun _ _ _ _ => rfl
  obtain ⟨q, hq⟩ : ∃ q, w.heap.size = q := ⟨_, rfl⟩
  have hn1 := heap_new w (.cells #[.func (.func K) #[] #[a, b]] 72)
  have hn2 := heap_new (w.alloc (.cells #[.func (.func K) #[] #[a, b]] 72)) (.cells #[.int .i64 0] 3)
  have hn3 := (Below.heap_alloc (w.alloc (.cells #[.func (.func K) #[] #[a, b]] 72)) (.cells #[.int .i64 0] 3) w.heap.size (by simp)).trans hn1
  rw [World.size_alloc, hq] at hn2
  rw [hq] at hn3
  have hsz : ((w.alloc (.cells #[.func (.func K) #[] #[a, b]] 72)).alloc (.cells #[.int .i64 0] 3)).heap.size = q + 2 := by simp; omega
  have hbT : Below w.heap.size w ((w.alloc (.cells #[.func (.func K) #[] #[a, b]] 72)).alloc (.cells #[.int .i64 0] 3)) := ((Below.refl _ _).alloc (Nat.le_refl _) _).alloc (by simp) _
  obtain ⟨wT, hwT⟩ : ∃ u, (w.alloc (.cells #[.func (.func K) #[] #[a, b]] 72)).alloc (.cells #[.int .i64 0] 3) = u := ⟨_, rfl⟩
  rw [hwT] at hn2 hn3 hsz hbT
  have HD : Hid (Calls Tryz.prog 35 #[.func (.func 58) #[] #[.pointer (some ⟨q, 0, none⟩), .pointer (some ⟨q + 1, 0, none⟩)]] wT fun r w' => r = .returned (.int .i64 0) ∧ Goes (Wth I' (q + 1) (.cells #[.int .i64 z] 3 (0, 0))) wT w' (fun i => F i ∨ i = q + 1)) := by
    refine done2_goes_ok (Wth.res R _ _) 58 _ _ wT (fun i hi => ?_) (enters_of Tryz.func58 (by kernel_rfl) rfl _) (fun u hu => ?_)
    · rcases hi with hi | hi
      · have := hF i hi; omega
      · omega
    · refine toldI1A_ok R K a b z u q (q + 1) ((hu.block _ (by omega)).trans hn3) ((hu.block _ (by omega)).trans hn2) (fun hf => ?_) hE (h u (hbT.trans (hu.mono (by omega))))
      have := hF _ hf
      omega
  have HE : Hid (∀ w2, Goes (Wth I' (q + 1) (.cells #[.int .i64 z] 3 (0, 0))) wT w2 (fun i => F i ∨ i = q + 1) → w2.heap[q + 1]? = some (.cells #[.int .i64 z] 3 (0, 0)) ∧ Goes I' w (w2.setCell ⟨q + 1, 0, none⟩ (.int .i64 z)) F) := fun w2 hg => by
    refine ⟨?_, ?_⟩
    · obtain ⟨_, ⟨_, _, h2, _, _⟩, _, _⟩ := id hg
      exact h2
    · subst hq
      rw [← hwT] at hg
      exact wth_end R (.int .i64 z) hg
  have HW : Hid ((w.alloc (.cells #[.func (.func K) #[] #[a, b]] 72)).alloc (.cells #[.int .i64 0] 3) = wT) := hwT
  clear h hn1 hn2 hn3 hsz hbT hwT hF
  go_enter Tryz.func30, Tryz.ntmps30
  go_wp2_with fail
  rw [HW.out]
  refine HD.out.mono ?_
  rintro r w2 ⟨rfl, hg⟩
  obtain ⟨hy2, hg2⟩ := HE.out w2 hg
  have HG2 : Hid (Goes I' w (w2.setCell ⟨q + 1, 0, none⟩ (.int .i64 z)) F) := hg2
  have dy : w2.cell? ⟨q + 1, 0, none⟩ = some (.int .i64 z) := by rw [cell_of hy2]; rfl
  have zy : w2.frozen? ⟨q + 1, 0, none⟩ = false := frozen_of hy2 0
  clear hy2 hg hg2
  have e2 : (w2.setCell ⟨q + 1, 0, none⟩ (.int .i64 z)).cell? ⟨q + 1, 0, none⟩ = some (.int .i64 z) := World.cell?_setCell_same _ _ _ dy
  go_wp2_with fail
  refine bodyPost_ret (v := .tuple #[.int .i64 z, .int .i64 0]) (by simp [results, Tryz.results30, go_sem, e2]) rfl ⟨rfl, HG2.out⟩

set_option maxRecDepth 100000 in
set_option maxHeartbeats 1000000 in
theorem toldIA_err {I' : World → (Nat → Prop) → Prop} {F : Nat → Prop} (R : Res I') (K : FuncId) (a b : Value) (n : Int) (w : World) (hF : ∀ i, F i → i < w.heap.size) (hE : ∀ u, (callFunc K #[a, b]).run Tryz.prog u = .ok (.enter K #[a, b]) u)
    (h : ∀ u, Below w.heap.size w u → Calls Tryz.prog K #[a, b] u fun r w' => r = .panicked (mis n) ∧ Goes I' u w' F) :
    Calls Tryz.prog 30 #[.func (.func K) #[] #[a, b]] w fun r w' => r = .returned (.tuple #[.int .i64 0, .int .i64 n]) ∧ Goes I' w w' F := by
  have hmf : ∀ (fn : Fn) (first cap : Array Value) (w : World), (Instr.makeFunc fn first cap).run Tryz.prog w = .ok (.func fn first cap) w := fun _ _ _ _ => rfl
  obtain ⟨q, hq⟩ : ∃ q, w.heap.size = q := ⟨_, rfl⟩
  have hn1 := heap_new w (.cells #[.func (.func K) #[] #[a, b]] 72)
  have hn2 := heap_new (w.alloc (.cells #[.func (.func K) #[] #[a, b]] 72)) (.cells #[.int .i64 0] 3)
  have hn3 := (Below.heap_alloc (w.alloc (.cells #[.func (.func K) #[] #[a, b]] 72)) (.cells #[.int .i64 0] 3) w.heap.size (by simp)).trans hn1
  rw [World.size_alloc, hq] at hn2
  rw [hq] at hn3
  have hsz : ((w.alloc (.cells #[.func (.func K) #[] #[a, b]] 72)).alloc (.cells #[.int .i64 0] 3)).heap.size = q + 2 := by simp; omega
  have hbT : Below w.heap.size w ((w.alloc (.cells #[.func (.func K) #[] #[a, b]] 72)).alloc (.cells #[.int .i64 0] 3)) := ((Below.refl _ _).alloc (Nat.le_refl _) _).alloc (by simp) _
  obtain ⟨wT, hwT⟩ : ∃ u, (w.alloc (.cells #[.func (.func K) #[] #[a, b]] 72)).alloc (.cells #[.int .i64 0] 3) = u := ⟨_, rfl⟩
  rw [hwT] at hn2 hn3 hsz hbT
  have HD : Hid (Calls Tryz.prog 35 #[.func (.func 58) #[] #[.pointer (some ⟨q, 0, none⟩), .pointer (some ⟨q + 1, 0, none⟩)]] wT fun r w' => r = .returned (.int .i64 n) ∧ Goes (Wth I' (q + 1) (.cells #[.int .i64 0] 3 (0, 0))) wT w' (fun i => F i ∨ i = q + 1)) := by
    refine done2_goes_err (Wth.res R _ _) 58 _ _ n wT (fun i hi => ?_) (enters_of Tryz.func58 (by kernel_rfl) rfl _) (fun u hu => ?_)
    · rcases hi with hi | hi
      · have := hF i hi; omega
      · omega
    · refine toldI1A_err K a b n u q (q + 1) ((hu.block _ (by omega)).trans hn3) ((hu.block _ (by omega)).trans hn2) (fun hf => ?_) hE (h u (hbT.trans (hu.mono (by omega))))
      have := hF _ hf
      omega
  have HE : Hid (∀ w2, Goes (Wth I' (q + 1) (.cells #[.int .i64 0] 3 (0, 0))) wT w2 (fun i => F i ∨ i = q + 1) → w2.heap[q + 1]? = some (.cells #[.int .i64 0] 3 (0, 0)) ∧ Goes I' w (w2.setCell ⟨q + 1, 0, none⟩ (.int .i64 0)) F) := fun w2 hg => by
    refine ⟨?_, ?_⟩
    · obtain ⟨_, ⟨_, _, h2, _, _⟩, _, _⟩ := id hg
      exact h2
    · subst hq
      rw [← hwT] at hg
      exact wth_end R (.int .i64 0) hg
  have HW : Hid ((w.alloc (.cells #[.func (.func K) #[] #[a, b]] 72)).alloc (.cells #[.int .i64 0] 3) = wT) := hwT
  clear h hn1 hn2 hn3 hsz hbT hwT hF
  go_enter Tryz.func30, Tryz.ntmps30
  go_wp2_with fail
  rw [HW.out]
  refine HD.out.mono ?_
  rintro r w2 ⟨rfl, hg⟩
  obtain ⟨hy2, hg2⟩ := HE.out w2 hg
  have HG2 : Hid (Goes I' w (w2.setCell ⟨q + 1, 0, none⟩ (.int .i64 0)) F) := hg2
  have dy : w2.cell? ⟨q + 1, 0, none⟩ = some (.int .i64 0) := by rw [cell_of hy2]; rfl
  have zy : w2.frozen? ⟨q + 1, 0, none⟩ = false := frozen_of hy2 0
  clear hy2 hg hg2
  have e2 : (w2.setCell ⟨q + 1, 0, none⟩ (.int .i64 0)).cell? ⟨q + 1, 0, none⟩ = some (.int .i64 0) := World.cell?_setCell_same _ _ _ dy
  go_wp2_with fail
  refine bodyPost_ret (v := .tuple #[.int .i64 0, .int .i64 n]) (by simp [results, Tryz.results30, go_sem, e2]) rfl ⟨rfl, HG2.out⟩

set_option maxRecDepth 100000 in
set_option maxHeartbeats 1000000 in
theorem toldIB_ok {I' : World → (Nat → Prop) → Prop} {F : Nat → Prop} (R : Res I') (K : FuncId) (a : Value) (z : Int) (w : World) (hF : ∀ i, F i → i < w.heap.size) (hE : ∀ u, (callFunc K #[a]).run Tryz.prog u = .ok (.enter K #[a]) u)
    (h : ∀ u, Below w.heap.size w u → Calls Tryz.prog K #[a] u fun r w' => r = .returned (.int .i64 z) ∧ Goes I' u w' F) :
    Calls Tryz.prog 30 #[.func (.func K) #[a] #[]] w fun r w' => r = .returned (.tuple #[.int .i64 z, .int .i64 0]) ∧ Goes I' w w' F := by
  have hmf : ∀ (fn : Fn) (first cap : Array Value) (w : World), (Instr.makeFunc fn first cap).run Tryz.prog w = .ok (.func fn first cap) w := fun _ _ _ _ => rfl
  obtain ⟨q, hq⟩ : ∃ q, w.heap.size = q := ⟨_, rfl⟩
  have hn1 := heap_new w (.cells #[.func (.func K) #[a] #[]] 72)
  have hn2 := heap_new (w.alloc (.cells #[.func (.func K) #[a] #[]] 72)) (.cells #[.int .i64 0] 3)
  have hn3 := (Below.heap_alloc (w.alloc (.cells #[.func (.func K) #[a] #[]] 72)) (.cells #[.int .i64 0] 3) w.heap.size (by simp)).trans hn1
  rw [World.size_alloc, hq] at hn2
  rw [hq] at hn3
  have hsz : ((w.alloc (.cells #[.func (.func K) #[a] #[]] 72)).alloc (.cells #[.int .i64 0] 3)).heap.size = q + 2 := by simp; omega
  have hbT : Below w.heap.size w ((w.alloc (.cells #[.func (.func K) #[a] #[]] 72)).alloc (.cells #[.int .i64 0] 3)) := ((Below.refl _ _).alloc (Nat.le_refl _) _).alloc (by simp) _
  obtain ⟨wT, hwT⟩ : ∃ u, (w.alloc (.cells #[.func (.func K) #[a] #[]] 72)).alloc (.cells #[.int .i64 0] 3) = u := ⟨_, rfl⟩
  rw [hwT] at hn2 hn3 hsz hbT
  have HD : Hid (Calls Tryz.prog 35 #[.func (.func 58) #[] #[.pointer (some ⟨q, 0, none⟩), .pointer (some ⟨q + 1, 0, none⟩)]] wT fun r w' => r = .returned (.int .i64 0) ∧ Goes (Wth I' (q + 1) (.cells #[.int .i64 z] 3 (0, 0))) wT w' (fun i => F i ∨ i = q + 1)) := by
    refine done2_goes_ok (Wth.res R _ _) 58 _ _ wT (fun i hi => ?_) (enters_of Tryz.func58 (by kernel_rfl) rfl _) (fun u hu => ?_)
    · rcases hi with hi | hi
      · have := hF i hi; omega
      · omega
    · refine toldI1B_ok R K a z u q (q + 1) ((hu.block _ (by omega)).trans hn3) ((hu.block _ (by omega)).trans hn2) (fun hf => ?_) hE (h u (hbT.trans (hu.mono (by omega))))
      have := hF _ hf
      omega
  have HE : Hid (∀ w2, Goes (Wth I' (q + 1) (.cells #[.int .i64 z] 3 (0, 0))) wT w2 (fun i => F i ∨ i = q + 1) → w2.heap[q + 1]? = some (.cells #[.int .i64 z] 3 (0, 0)) ∧ Goes I' w (w2.setCell ⟨q + 1, 0, none⟩ (.int .i64 z)) F) := fun w2 hg => by
    refine ⟨?_, ?_⟩
    · obtain ⟨_, ⟨_, _, h2, _, _⟩, _, _⟩ := id hg
      exact h2
    · subst hq
      rw [← hwT] at hg
      exact wth_end R (.int .i64 z) hg
  have HW : Hid ((w.alloc (.cells #[.func (.func K) #[a] #[]] 72)).alloc (.cells #[.int .i64 0] 3) = wT) := hwT
  clear h hn1 hn2 hn3 hsz hbT hwT hF
  go_enter Tryz.func30, Tryz.ntmps30
  go_wp2_with fail
  rw [HW.out]
  refine HD.out.mono ?_
  rintro r w2 ⟨rfl, hg⟩
  obtain ⟨hy2, hg2⟩ := HE.out w2 hg
  have HG2 : Hid (Goes I' w (w2.setCell ⟨q + 1, 0, none⟩ (.int .i64 z)) F) := hg2
  have dy : w2.cell? ⟨q + 1, 0, none⟩ = some (.int .i64 z) := by rw [cell_of hy2]; rfl
  have zy : w2.frozen? ⟨q + 1, 0, none⟩ = false := frozen_of hy2 0
  clear hy2 hg hg2
  have e2 : (w2.setCell ⟨q + 1, 0, none⟩ (.int .i64 z)).cell? ⟨q + 1, 0, none⟩ = some (.int .i64 z) := World.cell?_setCell_same _ _ _ dy
  go_wp2_with fail
  refine bodyPost_ret (v := .tuple #[.int .i64 z, .int .i64 0]) (by simp [results, Tryz.results30, go_sem, e2]) rfl ⟨rfl, HG2.out⟩

set_option maxRecDepth 100000 in
set_option maxHeartbeats 1000000 in
theorem toldIB_err {I' : World → (Nat → Prop) → Prop} {F : Nat → Prop} (R : Res I') (K : FuncId) (a : Value) (n : Int) (w : World) (hF : ∀ i, F i → i < w.heap.size) (hE : ∀ u, (callFunc K #[a]).run Tryz.prog u = .ok (.enter K #[a]) u)
    (h : ∀ u, Below w.heap.size w u → Calls Tryz.prog K #[a] u fun r w' => r = .panicked (mis n) ∧ Goes I' u w' F) :
    Calls Tryz.prog 30 #[.func (.func K) #[a] #[]] w fun r w' => r = .returned (.tuple #[.int .i64 0, .int .i64 n]) ∧ Goes I' w w' F := by
  have hmf : ∀ (fn : Fn) (first cap : Array Value) (w : World), (Instr.makeFunc fn first cap).run Tryz.prog w = .ok (.func fn first cap) w := fun _ _ _ _ => rfl
  obtain ⟨q, hq⟩ : ∃ q, w.heap.size = q := ⟨_, rfl⟩
  have hn1 := heap_new w (.cells #[.func (.func K) #[a] #[]] 72)
  have hn2 := heap_new (w.alloc (.cells #[.func (.func K) #[a] #[]] 72)) (.cells #[.int .i64 0] 3)
  have hn3 := (Below.heap_alloc (w.alloc (.cells #[.func (.func K) #[a] #[]] 72)) (.cells #[.int .i64 0] 3) w.heap.size (by simp)).trans hn1
  rw [World.size_alloc, hq] at hn2
  rw [hq] at hn3
  have hsz : ((w.alloc (.cells #[.func (.func K) #[a] #[]] 72)).alloc (.cells #[.int .i64 0] 3)).heap.size = q + 2 := by simp; omega
  have hbT : Below w.heap.size w ((w.alloc (.cells #[.func (.func K) #[a] #[]] 72)).alloc (.cells #[.int .i64 0] 3)) := ((Below.refl _ _).alloc (Nat.le_refl _) _).alloc (by simp) _
  obtain ⟨wT, hwT⟩ : ∃ u, (w.alloc (.cells #[.func (.func K) #[a] #[]] 72)).alloc (.cells #[.int .i64 0] 3) = u := ⟨_, rfl⟩
  rw [hwT] at hn2 hn3 hsz hbT
  have HD : Hid (Calls Tryz.prog 35 #[.func (.func 58) #[] #[.pointer (some ⟨q, 0, none⟩), .pointer (some ⟨q + 1, 0, none⟩)]] wT fun r w' => r = .returned (.int .i64 n) ∧ Goes (Wth I' (q + 1) (.cells #[.int .i64 0] 3 (0, 0))) wT w' (fun i => F i ∨ i = q + 1)) := by
    refine done2_goes_err (Wth.res R _ _) 58 _ _ n wT (fun i hi => ?_) (enters_of Tryz.func58 (by kernel_rfl) rfl _) (fun u hu => ?_)
    · rcases hi with hi | hi
      · have := hF i hi; omega
      · omega
    · refine toldI1B_err K a n u q (q + 1) ((hu.block _ (by omega)).trans hn3) ((hu.block _ (by omega)).trans hn2) (fun hf => ?_) hE (h u (hbT.trans (hu.mono (by omega))))
      have := hF _ hf
      omega
  have HE : Hid (∀ w2, Goes (Wth I' (q + 1) (.cells #[.int .i64 0] 3 (0, 0))) wT w2 (fun i => F i ∨ i = q + 1) → w2.heap[q + 1]? = some (.cells #[.int .i64 0] 3 (0, 0)) ∧ Goes I' w (w2.setCell ⟨q + 1, 0, none⟩ (.int .i64 0)) F) := fun w2 hg => by
    refine ⟨?_, ?_⟩
    · obtain ⟨_, ⟨_, _, h2, _, _⟩, _, _⟩ := id hg
      exact h2
    · subst hq
      rw [← hwT] at hg
      exact wth_end R (.int .i64 0) hg
  have HW : Hid ((w.alloc (.cells #[.func (.func K) #[a] #[]] 72)).alloc (.cells #[.int .i64 0] 3) = wT) := hwT
  clear h hn1 hn2 hn3 hsz hbT hwT hF
  go_enter Tryz.func30, Tryz.ntmps30
  go_wp2_with fail
  rw [HW.out]
  refine HD.out.mono ?_
  rintro r w2 ⟨rfl, hg⟩
  obtain ⟨hy2, hg2⟩ := HE.out w2 hg
  have HG2 : Hid (Goes I' w (w2.setCell ⟨q + 1, 0, none⟩ (.int .i64 0)) F) := hg2
  have dy : w2.cell? ⟨q + 1, 0, none⟩ = some (.int .i64 0) := by rw [cell_of hy2]; rfl
  have zy : w2.frozen? ⟨q + 1, 0, none⟩ = false := frozen_of hy2 0
  clear hy2 hg hg2
  have e2 : (w2.setCell ⟨q + 1, 0, none⟩ (.int .i64 0)).cell? ⟨q + 1, 0, none⟩ = some (.int .i64 0) := World.cell?_setCell_same _ _ _ dy
  go_wp2_with fail
  refine bodyPost_ret (v := .tuple #[.int .i64 0, .int .i64 n]) (by simp [results, Tryz.results30, go_sem, e2]) rfl ⟨rfl, HG2.out⟩
end Go.Proofs.YtigegdelhpdlhaaGreatDoor

/- Layer 18: wal.Entry of the bytes of an entry of one write. -/
namespace Go.Proofs.YtigegdelhpdlhaaGreatDoor
open Go.RowKit QP

/-- an entry that is new: of one write of t, k and the whole number n -/
def EntN (base n : Nat) (t k : ByteArray) (g x : Nat) (w w' : World) : Prop := w'.heap[g]? = some (boxJ t k x) ∧ OneAt w' x 2 (n : Int) ByteArray.empty ∧ base ≤ g ∧ base ≤ x ∧ Below base w w'
abbrev entV (T g : Nat) : Value := .agg #[.int .u64 (T : Int), .slice (some ⟨g, 0, none⟩) 1 1]
abbrev entZ : Obj := .cells #[.int .u64 0, .slice none 0 0] 42 (0, 0)
/-- a block of the caller's own, just made, is written with the entry -/
theorem EntN.put {base n g x : Nat} {t k : ByteArray} {w w1 : World} {o : Obj} (h : EntN (w.alloc o).heap.size n t k g x (w.alloc o) w1) (hb : base = w.heap.size) (v0 v1 : Value) : EntN base n t k g x w ((w1.setCell ⟨w.heap.size, 0, none⟩ v0).setCell ⟨w.heap.size, 1, none⟩ v1) := by
  obtain ⟨h1, h2, h3, h4, h5⟩ := h
  subst hb
  rw [World.size_alloc] at h3 h4
  have hT : Turn (fun i => i = w.heap.size) w1 ((w1.setCell ⟨w.heap.size, 0, none⟩ v0).setCell ⟨w.heap.size, 1, none⟩ v1) := (Turn.setCell (S := fun i => i = w.heap.size) w1 ⟨w.heap.size, 0, none⟩ v0 rfl).trans (Turn.setCell _ ⟨w.heap.size, 1, none⟩ v1 rfl)
  have hb1 : Below w.heap.size w (w.alloc o) := (Below.refl _ _).alloc (Nat.le_refl _) o
  have hb2 : Below w.heap.size w w1 := hb1.trans (h5.mono (by rw [World.size_alloc]; omega))
  exact ⟨(hT.block g (lt_of h1) (by omega)).trans h1, oneAt_turn h2 hT (by omega), by omega, by omega, hb2.trans ((hT.mono (S' := fun i => w.heap.size ≤ i) (fun i hi => by omega)).toBelow hb2.size)⟩

section
variable {T n : Nat} {t k : ByteArray}
set_option maxRecDepth 100000 in
set_option maxHeartbeats 1000000 in
theorem jentry1_any (p : Nat) (u : World) (hT : TidOk T) (hn : n < 9223372036854775808) (ht : t.size ≤ 100) (hk : k.size ≤ 100) (hp : u.cell? ⟨p, 0, none⟩ = some (.string (ofN (entN T t k n)))) (hpl : p < u.heap.size) :
    Calls Tryz.prog 123 #[.pointer (some ⟨p, 0, none⟩)] u fun e w' => ∃ g x, e = .returned (entV T g) ∧ Hid (EntN u.heap.size n t k g x u w') := by
  obtain ⟨s, hs⟩ : ∃ s, ofN (entN T t k n) = s := ⟨_, rfl⟩
  have HE : Hid (Calls Tryz.prog 124 #[.string s] (u.alloc entZ) fun e w' => ∃ g x, e = .returned (entV T g) ∧ Hid (EntN (u.alloc entZ).heap.size n t k g x (u.alloc entZ) w')) := by
    rw [← hs]
    exact jentryOf_any T n t k _ hT hn ht hk
  rw [hs] at hp
  have HR : Hid ((u.alloc entZ).heap[u.heap.size]? = some entZ) := heap_new u _
  have HRs : Hid ((u.alloc entZ).heap.size = u.heap.size + 1) := World.size_alloc _ _
  clear hs
  go_enter Tryz.func123, Tryz.ntmps123
  go_wp2_with fail
  refine HE.out.mono ?_
  rintro e w1 ⟨g, x, rfl, HN⟩
  have hR1 := (HN.out.2.2.2.2.block u.heap.size (by rw [HRs.out]; omega)).trans HR.out
  have HR1 : Hid (w1.heap[u.heap.size]? = some entZ) := hR1
  have r0 : w1.cell? ⟨u.heap.size, 0, none⟩ = some (.int .u64 0) := by rw [cell_of hR1]; rfl
  have r1 : w1.cell? ⟨u.heap.size, 1, none⟩ = some (.slice none 0 0) := by rw [cell_of hR1]; rfl
  have f0 := frozen_of hR1 0
  have f1 := frozen_of hR1 1
  clear hR1
  go_wp2_with fail
  have hFe := heap_setCell_same (heap_setCell_same HR1.out 0 (.int .u64 (T : Int))) 1 (.slice (some ⟨g, 0, none⟩) 1 1)
  refine bodyPost_ret (results_cell_row rfl _ _ u.heap.size 42 #[.int .u64 (T : Int), .slice (some ⟨g, 0, none⟩) 1 1] (0, 0) _ rfl hFe Tryz.underlying42 rfl (by kernel_rfl)) rfl ?_
  exact ⟨g, x, rfl, HN.out.put rfl _ _⟩

set_option maxRecDepth 100000 in
set_option maxHeartbeats 1000000 in
theorem jtoldE1_any (K : FuncId) (a : Value) (u : World) (X Y : Nat) (hx : u.heap[X]? = some (.cells #[.func (.func K) #[] #[a]] 181 (0, 0))) (hy : u.heap[Y]? = some entZ)
    (hE : ∀ u, (callFunc K #[a]).run Tryz.prog u = .ok (.enter K #[a]) u) (h : Calls Tryz.prog K #[a] u fun e w' => ∃ g x, e = .returned (entV T g) ∧ Hid (EntN u.heap.size n t k g x u w')) :
    Calls Tryz.prog 147 #[.pointer (some ⟨X, 0, none⟩), .pointer (some ⟨Y, 0, none⟩)] u fun r w' => r = .returned (.tuple #[]) ∧ ∃ g x w1, EntN u.heap.size n t k g x u w1 ∧ w' = (w1.setCell ⟨Y, 0, none⟩ (.int .u64 (T : Int))).setCell ⟨Y, 1, none⟩ (.slice (some ⟨g, 0, none⟩) 1 1) := by
  have HC : Hid (Calls Tryz.prog K #[a] u fun e w' => ∃ g x, e = .returned (entV T g) ∧ Hid (EntN u.heap.size n t k g x u w')) := h
  have HY : Hid (u.heap[Y]? = some entZ) := hy
  have dx : u.cell? ⟨X, 0, none⟩ = some (.func (.func K) #[] #[a]) := by rw [cell_of hx]; rfl
  clear h hx hy
  go_enter Tryz.func147, Tryz.ntmps147
  go_wp2_with fail
  refine HC.out.mono ?_
  rintro r w1 ⟨g, x, rfl, HN⟩
  have hy1 := (HN.out.2.2.2.2.block Y (lt_of HY.out)).trans HY.out
  have r0 : w1.cell? ⟨Y, 0, none⟩ = some (.int .u64 0) := by rw [cell_of hy1]; rfl
  have r1 : w1.cell? ⟨Y, 1, none⟩ = some (.slice none 0 0) := by rw [cell_of hy1]; rfl
  have f0 := frozen_of hy1 0
  have f1 := frozen_of hy1 1
  clear hy1
  go_wp2_with fail
  go_returns
  exact ⟨rfl, g, x, w1, HN.out, rfl⟩

theorem EntN.mono {base base' n : Nat} {t k : ByteArray} {g x : Nat} {w0 w w' : World} (h : EntN base n t k g x w w') (hb : Below base' w0 w) (hl : base' ≤ base) : EntN base' n t k g x w0 w' :=
  ⟨h.1, h.2.1, by have := h.2.2.1; omega, by have := h.2.2.2.1; omega, hb.trans (h.2.2.2.2.mono hl)⟩
theorem EntN.set {base n : Nat} {t k : ByteArray} {g x : Nat} {w w' : World} (h : EntN base n t k g x w w') (y : Nat) (hy : base ≤ y) (hgy : g ≠ y) (hxy : x ≠ y) (i : Nat) (v : Value) : EntN base n t k g x w (w'.setCell ⟨y, i, none⟩ v) := by
  obtain ⟨h1, h2, h3, h4, h5⟩ := h
  have hT : Turn (fun j => j = y) w' (w'.setCell ⟨y, i, none⟩ v) := Turn.setCell (S := fun j => j = y) w' ⟨y, i, none⟩ v rfl
  exact ⟨(hT.block g (lt_of h1) hgy).trans h1, oneAt_turn h2 hT hxy, h3, h4, h5.trans ((hT.mono (S' := fun j => base ≤ j) (fun j hj => by omega)).toBelow (Nat.le_trans h3 (Nat.le_of_lt (lt_of h1))))⟩

set_option maxRecDepth 100000 in
set_option maxHeartbeats 2000000 in
theorem jtoldE_any (K : FuncId) (a : Value) (w : World) (hE : ∀ u, (callFunc K #[a]).run Tryz.prog u = .ok (.enter K #[a]) u)
    (h : ∀ u, Below w.heap.size w u → Calls Tryz.prog K #[a] u fun e w' => ∃ g x, e = .returned (entV T g) ∧ Hid (EntN u.heap.size n t k g x u w')) :
    Calls Tryz.prog 122 #[.func (.func K) #[] #[a]] w fun r w' => ∃ g x, r = .returned (.tuple #[entV T g, .int .i64 0]) ∧ Hid (EntN w.heap.size n t k g x w w') := by
  have hmf : ∀ (fn : Fn) (first cap : Array Value) (w : World), (Instr.makeFunc fn first cap).run Tryz.prog w = .ok (.func fn first cap) w := fun _ _ _ _ => rfl
  obtain ⟨q, hq⟩ : ∃ q, w.heap.size = q := ⟨_, rfl⟩
  have hn1 := heap_new w (.cells #[.func (.func K) #[] #[a]] 181)
  have hn2 := heap_new (w.alloc (.cells #[.func (.func K) #[] #[a]] 181)) entZ
  have hn3 := (Below.heap_alloc (w.alloc (.cells #[.func (.func K) #[] #[a]] 181)) entZ w.heap.size (by simp)).trans hn1
  rw [World.size_alloc, hq] at hn2
  rw [hq] at hn3
  have hsz : ((w.alloc (.cells #[.func (.func K) #[] #[a]] 181)).alloc entZ).heap.size = q + 2 := by simp; omega
  have hbT : Below w.heap.size w ((w.alloc (.cells #[.func (.func K) #[] #[a]] 181)).alloc entZ) := ((Below.refl _ _).alloc (Nat.le_refl _) _).alloc (by simp) _
  obtain ⟨wT, hwT⟩ : ∃ u, (w.alloc (.cells #[.func (.func K) #[] #[a]] 181)).alloc entZ = u := ⟨_, rfl⟩
  rw [hwT] at hn2 hn3 hsz hbT
  have HD : Hid (Calls Tryz.prog 35 #[.func (.func 147) #[] #[.pointer (some ⟨q, 0, none⟩), .pointer (some ⟨q + 1, 0, none⟩)]] wT fun r w' => r = .returned (.int .i64 0) ∧ ∃ g x, w'.heap[q + 1]? = some (.cells #[.int .u64 (T : Int), .slice (some ⟨g, 0, none⟩) 1 1] 42 (0, 0)) ∧ EntN w.heap.size n t k g x w w' ∧ q + 1 < g ∧ q + 1 < x) := by
    have hbe : Below wT.heap.size wT (wT.alloc (errO 0)) := (Below.refl _ _).alloc (Nat.le_refl _) _
    refine (done2_ok 147 _ _ wT (fun w' => ∃ g x w1, EntN (wT.alloc (errO 0)).heap.size n t k g x (wT.alloc (errO 0)) w1 ∧ w' = (w1.setCell ⟨q + 1, 0, none⟩ (.int .u64 (T : Int))).setCell ⟨q + 1, 1, none⟩ (.slice (some ⟨g, 0, none⟩) 1 1)) (enters_of Tryz.func147 (by kernel_rfl) rfl _) ?_ ?_).mono ?_
    · exact jtoldE1_any K a (wT.alloc (errO 0)) q (q + 1) ((hbe.block _ (by omega)).trans hn3) ((hbe.block _ (by omega)).trans hn2) hE (h _ (hbT.trans (hbe.mono (by omega))))
    · rintro w' ⟨g, x, w1, hN, rfl⟩
      have e1 := (hN.2.2.2.2.block wT.heap.size (by simp)).trans (heap_new wT (errO 0))
      exact (Below.heap_setCell _ ⟨q + 1, 1, none⟩ _ _ (by show wT.heap.size ≠ q + 1; omega)).trans ((Below.heap_setCell _ ⟨q + 1, 0, none⟩ _ _ (by show wT.heap.size ≠ q + 1; omega)).trans e1)
    · rintro r w' ⟨e1, w2, ⟨g, x, w1, hN, rfl⟩, rfl⟩
      have hsE : (wT.alloc (errO 0)).heap.size = q + 3 := by rw [World.size_alloc]; omega
      have h3 := hN.2.2.1
      have h4 := hN.2.2.2.1
      have hy1 := (hN.2.2.2.2.block (q + 1) (by omega)).trans ((hbe.block (q + 1) (by omega)).trans hn2)
      have hy2 := heap_setCell_same (heap_setCell_same hy1 0 (.int .u64 (T : Int))) 1 (.slice (some ⟨g, 0, none⟩) 1 1)
      have hN0 : EntN w.heap.size n t k g x w w1 := hN.mono (hbT.trans (hbe.mono (by omega))) (by omega)
      have hN3 := ((hN0.set (q + 1) (by omega) (by omega) (by omega) 0 (.int .u64 (T : Int))).set (q + 1) (by omega) (by omega) (by omega) 1 (.slice (some ⟨g, 0, none⟩) 1 1)).set wT.heap.size (by omega) (by omega) (by omega) 0 (.int .i64 0)
      exact ⟨e1, g, x, (Below.heap_setCell _ ⟨wT.heap.size, 0, none⟩ _ _ (by show q + 1 ≠ wT.heap.size; omega)).trans hy2, hN3, by omega, by omega⟩
  have HW : Hid ((w.alloc (.cells #[.func (.func K) #[] #[a]] 181)).alloc entZ = wT) := hwT
  have Hq : Hid (w.heap.size = q) := hq
  clear h hn1 hn2 hn3 hsz hbT hwT
  go_enter Tryz.func122, Tryz.ntmps122
  go_wp2_with fail
  rw [HW.out]
  refine HD.out.mono ?_
  rintro r w2 ⟨rfl, g, x, hy2, hN2, hgq, hxq⟩
  have dy0 : w2.cell? ⟨q + 1, 0, none⟩ = some (.int .u64 (T : Int)) := by rw [cell_of hy2]; rfl
  have dy1 : w2.cell? ⟨q + 1, 1, none⟩ = some (.slice (some ⟨g, 0, none⟩) 1 1) := by rw [cell_of hy2]; rfl
  have zy0 := frozen_of hy2 0
  have zy1 := frozen_of hy2 1
  have HY2 : Hid (w2.heap[q + 1]? = some (.cells #[.int .u64 (T : Int), .slice (some ⟨g, 0, none⟩) 1 1] 42 (0, 0))) := hy2
  have HN2 : Hid (EntN w.heap.size n t k g x w w2 ∧ q + 1 < g ∧ q + 1 < x) := ⟨hN2, hgq, hxq⟩
  clear hy2 hN2 hgq hxq
  go_wp2_with fail
  have hYe := heap_setCell_same (heap_setCell_same HY2.out 0 (.int .u64 (T : Int))) 1 (.slice (some ⟨g, 0, none⟩) 1 1)
  obtain ⟨we, hwe⟩ : ∃ we, (w2.setCell ⟨q + 1, 0, none⟩ (.int .u64 (T : Int))).setCell ⟨q + 1, 1, none⟩ (.slice (some ⟨g, 0, none⟩) 1 1) = we := ⟨_, rfl⟩
  rw [hwe] at hYe ⊢
  have r0 : we.cell? ⟨q + 1, 0, none⟩ = some (.int .u64 (T : Int)) := by rw [cell_of hYe]; rfl
  have r1 : we.cell? ⟨q + 1, 1, none⟩ = some (.slice (some ⟨g, 0, none⟩) 1 1) := by rw [cell_of hYe]; rfl
  refine bodyPost_ret (v := .tuple #[entV T g, .int .i64 0]) (by simp [results, Tryz.results122, go_sem, r0, r1]) rfl ⟨g, x, rfl, ?_⟩
  rw [← hwe]
  obtain ⟨p1, p2, p3⟩ := HN2.out
  exact (p1.set (q + 1) (by omega) (by omega) (by omega) 0 _).set (q + 1) (by omega) (by omega) (by omega) 1 _

set_option maxRecDepth 100000 in
set_option maxHeartbeats 1000000 in
/-- an entry's bytes tell the entry -/
theorem jEntry_any (w : World) (hT : TidOk T) (hn : n < 9223372036854775808) (ht : t.size ≤ 100) (hk : k.size ≤ 100) :
    Calls Tryz.prog 101 #[.string (ofN (entN T t k n))] w fun r w' => ∃ g x, r = .returned (.tuple #[entV T g, .int .i64 0]) ∧ Hid (EntN w.heap.size n t k g x w w') := by
  have hmf : ∀ (fn : Fn) (first cap : Array Value) (w : World), (Instr.makeFunc fn first cap).run Tryz.prog w = .ok (.func fn first cap) w := fun _ _ _ _ => rfl
  obtain ⟨s, hs⟩ : ∃ s, ofN (entN T t k n) = s := ⟨_, rfl⟩
  obtain ⟨q, hq⟩ : ∃ q, w.heap.size = q := ⟨_, rfl⟩
  have hn1 := heap_new w (.cells #[.string s] 9)
  have hn2 := heap_new (w.alloc (.cells #[.string s] 9)) entZ
  have hn3 := (Below.heap_alloc (w.alloc (.cells #[.string s] 9)) entZ w.heap.size (by simp)).trans hn1
  rw [World.size_alloc, hq] at hn2
  rw [hq] at hn3
  have hsz : ((w.alloc (.cells #[.string s] 9)).alloc entZ).heap.size = q + 2 := by simp; omega
  have hbT : Below w.heap.size w ((w.alloc (.cells #[.string s] 9)).alloc entZ) := ((Below.refl _ _).alloc (Nat.le_refl _) _).alloc (by simp) _
  obtain ⟨wT, hwT⟩ : ∃ u, (w.alloc (.cells #[.string s] 9)).alloc entZ = u := ⟨_, rfl⟩
  rw [hwT] at hn2 hn3 hsz hbT
  have HD : Hid (Calls Tryz.prog 122 #[.func (.func 123) #[] #[.pointer (some ⟨q, 0, none⟩)]] wT fun r w' => ∃ g x, r = .returned (.tuple #[entV T g, .int .i64 0]) ∧ w'.heap[q + 1]? = some entZ ∧ EntN w.heap.size n t k g x w w' ∧ q + 1 < g ∧ q + 1 < x) := by
    refine (jtoldE_any (T := T) (n := n) (t := t) (k := k) 123 (.pointer (some ⟨q, 0, none⟩)) wT (enters_of Tryz.func123 (by kernel_rfl) rfl _) (fun u hu => ?_)).mono ?_
    · have hu3 := (hu.block q (by omega)).trans hn3
      exact jentry1_any q u hT hn ht hk (by rw [cell_of hu3, hs]; rfl) (lt_of hu3)
    · rintro r w' ⟨g, x, e1, hN⟩
      have h3 := hN.out.2.2.1
      have h4 := hN.out.2.2.2.1
      exact ⟨g, x, e1, (hN.out.2.2.2.2.block (q + 1) (by omega)).trans hn2, hN.out.mono hbT (by omega), by omega, by omega⟩
  have HW : Hid ((w.alloc (.cells #[.string s] 9)).alloc entZ = wT) := hwT
  rw [hs]
  clear hn1 hn2 hn3 hsz hbT hwT hs hT
  go_enter Tryz.func101, Tryz.ntmps101
  go_wp2_with fail
  rw [HW.out]
  refine HD.out.mono ?_
  rintro r w2 ⟨g, x, rfl, hy2, hN2, hgq, hxq⟩
  have dy0 : w2.cell? ⟨q + 1, 0, none⟩ = some (.int .u64 0) := by rw [cell_of hy2]; rfl
  have dy1 : w2.cell? ⟨q + 1, 1, none⟩ = some (.slice none 0 0) := by rw [cell_of hy2]; rfl
  have zy0 := frozen_of hy2 0
  have zy1 := frozen_of hy2 1
  have HY2 : Hid (w2.heap[q + 1]? = some entZ) := hy2
  have HN2 : Hid (EntN w.heap.size n t k g x w w2 ∧ q + 1 < g ∧ q + 1 < x) := ⟨hN2, hgq, hxq⟩
  clear hy2 hN2 hgq hxq
  go_wp2_with fail
  have hYe := heap_setCell_same (heap_setCell_same HY2.out 0 (.int .u64 (T : Int))) 1 (.slice (some ⟨g, 0, none⟩) 1 1)
  obtain ⟨we, hwe⟩ : ∃ we, (w2.setCell ⟨q + 1, 0, none⟩ (.int .u64 (T : Int))).setCell ⟨q + 1, 1, none⟩ (.slice (some ⟨g, 0, none⟩) 1 1) = we := ⟨_, rfl⟩
  rw [hwe] at hYe ⊢
  have r0 : we.cell? ⟨q + 1, 0, none⟩ = some (.int .u64 (T : Int)) := by rw [cell_of hYe]; rfl
  have r1 : we.cell? ⟨q + 1, 1, none⟩ = some (.slice (some ⟨g, 0, none⟩) 1 1) := by rw [cell_of hYe]; rfl
  refine bodyPost_ret (v := .tuple #[entV T g, .int .i64 0]) (by simp [results, Tryz.results101, go_sem, r0, r1]) rfl ⟨g, x, rfl, ?_⟩
  rw [← hwe]
  obtain ⟨p1, p2, p3⟩ := HN2.out
  exact (p1.set (q + 1) (by omega) (by omega) (by omega) 0 _).set (q + 1) (by omega) (by omega) (by omega) 1 _
end
end Go.Proofs.YtigegdelhpdlhaaGreatDoor

/- Layer 18: wal.bytesOf of an entry of one write. -/
namespace Go.Proofs.YtigegdelhpdlhaaGreatDoor
open Go.RowKit QP

theorem jbytes_ofN (l : List UInt8) : jbytes l = ofN (l.map UInt8.toNat) := by
  unfold jbytes ofN
  congr 2
  rw [List.map_map]
  have e : (UInt8.ofNat ∘ UInt8.toNat) = id := by funext b; simp
  rw [e, List.map_id]
theorem le8J_map (n : Nat) : (le8J n).map UInt8.toNat = lo n 8 := nb_ofN (lo_bytes n 8)
theorem rowJ_map (n : Nat) : ((ofN (rowB n)).data.toList).map UInt8.toNat = rowB n := nb_ofN (rowB_bytes n)
/-- what bytesOf tells -/
theorem entJ_is (T n : Nat) (t k : ByteArray) : jbytes (le8J T ++ le8J 1 ++ writeJ t k n) = ofN (entN T t k n) := by
  rw [jbytes_ofN]
  congr 1
  unfold writeJ entN writeN
  simp only [List.map_append, le8J_map, rowJ_map, List.map_cons, List.map_nil, List.append_assoc, List.append_nil]
  rfl

/-- a writer in a block of its own, made at w2 as block m -/
def StB (m : Nat) (l : List UInt8) (w2 u : World) : Prop := ∃ F', WrJ m l u F' ∧ (∀ i, F' i → m ≤ i) ∧ Turn (fun i => m ≤ i) w2 u
section
variable {m : Nat} {l l2 : List UInt8} {w2 u u' : World}
theorem StB.call (h : StB m l w2 u) : ∃ A, WrJ m l u A ∧ (∀ i, A i → m ≤ i) ∧ ∀ l2 u', Goes (WrJ m l2) u u' A → StB m l2 w2 u' := by
  obtain ⟨F', h1, h2, h3⟩ := h
  refine ⟨F', h1, h2, fun l2 u' hg => ?_⟩
  obtain ⟨F2, g1, g2, g3⟩ := hg
  have hm : m < u.heap.size := by obtain ⟨A, c, q1, _⟩ := h1; exact lt_of q1
  refine ⟨F2, g1, fun i hi => ?_, h3.trans (g2.mono h2)⟩
  rcases g3 i hi with h | h
  · exact h2 i h
  · omega
theorem StB.below (h : StB m l w2 u) (hb : Below u.heap.size u u') : StB m l w2 u' := by
  obtain ⟨F', h1, h2, h3⟩ := h
  exact ⟨F', (wrJ_res m l).kept (S := fun _ => False) h1 (Turn.ofBelow _ hb) (fun _ _ h => h), h2, h3.trans (Turn.ofBelow _ hb)⟩
theorem StB.block (h : StB m l w2 u) {i : Nat} (hi : i < m) (hs : i < w2.heap.size) : u.heap[i]? = w2.heap[i]? := by
  obtain ⟨F', h1, h2, h3⟩ := h
  exact h3.block i hs (by omega)
theorem StB.slot (h : StB m l w2 u) : ∃ A c, u.cell? ⟨m, 0, none⟩ = some (.slice A l.length c) ∧ (convert 54 9 (.slice A l.length c)).run Tryz.prog u = .ok (.string (jbytes l)) u := by
  obtain ⟨F', ⟨A, c, h1, h2, h3⟩, _, _⟩ := h
  exact ⟨A, c, by rw [cell_of h1]; rfl, h2.str⟩
end

set_option maxRecDepth 100000 in
set_option maxHeartbeats 2000000 in
theorem jbytesOf_any (T n : Nat) (t k : ByteArray) (g x : Nat) (w : World) (hT : TidOk T) (hg : w.heap[g]? = some (boxJ t k x)) (hx : OneAt w x 2 (n : Int) ByteArray.empty) (hn : n < 9223372036854775808) (ht : t.size ≤ 100) (hk : k.size ≤ 100) :
    Calls Tryz.prog 63 #[.agg #[.int .u64 (T : Int), .slice (some ⟨g, 0, none⟩) 1 1]] w fun e w' => e = .returned (.string (ofN (entN T t k n))) ∧ Below w.heap.size w w' := by
  obtain ⟨wA, hwA⟩ : ∃ u, w.alloc (.cells #[.int .u64 (T : Int), .slice (some ⟨g, 0, none⟩) 1 1] 42) = u := ⟨_, rfl⟩
  have hbA : Below w.heap.size w wA := by rw [← hwA]; exact (Below.refl _ _).alloc (Nat.le_refl _) _
  have hcA : wA.heap[w.heap.size]? = some (.cells #[.int .u64 (T : Int), .slice (some ⟨g, 0, none⟩) 1 1] 42 (0, 0)) := by rw [← hwA]; exact heap_new w _
  have hgl := lt_of hg
  have HC : Hid (Calls Tryz.prog 87 #[.agg #[.int .u64 (T : Int), .slice (some ⟨g, 0, none⟩) 1 1]] wA fun e w' => e = .returned (.tuple #[]) ∧ Below wA.heap.size wA w') := jcheck_any T n t k g x wA hT ((hbA.block g hgl).trans hg) (hx.below hbA) ht hk
  have HA : Hid (w.heap[g]? = some (boxJ t k x) ∧ OneAt w x 2 (n : Int) ByteArray.empty ∧ Below w.heap.size w wA ∧ wA.heap[w.heap.size]? = some (.cells #[.int .u64 (T : Int), .slice (some ⟨g, 0, none⟩) 1 1] 42 (0, 0))) := ⟨hg, hx, hbA, hcA⟩
  have HW : Hid (w.alloc (.cells #[.int .u64 (T : Int), .slice (some ⟨g, 0, none⟩) 1 1] 42) = wA) := hwA
  have hxl := hx.1
  have hTl : Hid (T < 18446744073709551616) := hT.lt
  have HEq : Hid (jbytes (le8J T ++ le8J 1 ++ writeJ t k n) = ofN (entN T t k n)) := entJ_is T n t k
  clear hg hx hbA hcA hwA hT
  go_enter Tryz.func63, Tryz.ntmps63
  go_wp2_with fail
  rw [HW.out]
  refine HC.out.mono ?_
  rintro e w1 ⟨rfl, hb1⟩
  have hB1 : Below w.heap.size w w1 := HA.out.2.2.1.trans (hb1.mono HA.out.2.2.1.size)
  have hq1 := (hb1.block w.heap.size (lt_of HA.out.2.2.2)).trans HA.out.2.2.2
  have hm1 : w.heap.size < w1.heap.size := lt_of hq1
  obtain ⟨m, hm⟩ : ∃ m, w1.heap.size = m := ⟨_, rfl⟩
  obtain ⟨w2, hw2⟩ : ∃ u, w1.alloc (.cells #[.slice none 0 0] 140) = u := ⟨_, rfl⟩
  have hb2 : Below w1.heap.size w1 w2 := by rw [← hw2]; exact (Below.refl _ _).alloc (Nat.le_refl _) _
  have S0 : Hid (StB m [] w2 w2) := by
    refine ⟨fun i => i = m, ⟨none, 0, ?_, ⟨rfl, Or.inl ⟨rfl, rfl⟩⟩, fun i => ?_⟩, fun i hi => by omega, Turn.refl _ _⟩
    · rw [← hw2, ← hm]; exact heap_new w1 _
    · exact ⟨fun h => Or.inl h, fun h => h.elim id (fun h => by cases h)⟩
  have hms : m < w2.heap.size := by rw [← hm, ← hw2]; simp
  have HF : Hid (w2.heap[w.heap.size]? = some (.cells #[.int .u64 (T : Int), .slice (some ⟨g, 0, none⟩) 1 1] 42 (0, 0)) ∧ w2.heap[g]? = some (boxJ t k x) ∧ OneAt w2 x 2 (n : Int) ByteArray.empty ∧ Below w.heap.size w w2 ∧ w.heap.size < m ∧ g < m ∧ x < m ∧ m < w2.heap.size) :=
    ⟨(hb2.block _ hm1).trans hq1, (hb2.block _ (by omega)).trans ((hB1.block g hgl).trans HA.out.1), (HA.out.2.1.below hB1).below hb2, hB1.trans (hb2.mono hB1.size), by omega, by omega, by omega, hms⟩
  have HCell : Hid (∀ l u, StB m l w2 u → u.cell? ⟨w.heap.size, 0, none⟩ = some (.int .u64 (T : Int)) ∧ u.cell? ⟨w.heap.size, 1, none⟩ = some (.slice (some ⟨g, 0, none⟩) 1 1) ∧ u.cell? ⟨g, 0, none⟩ = some (.string t) ∧ u.cell? ⟨g, 1, none⟩ = some (.string k) ∧ u.cell? ⟨g, 2, none⟩ = some (.bool false) ∧ u.cell? ⟨g, 3, none⟩ = some (.slice (some ⟨x, 0, none⟩) 1 1)) := fun l u hs => by
    obtain ⟨p1, p2, p3, p4, p5, p6, p7, p8⟩ := HF.out
    have a1 := (hs.block (i := w.heap.size) p5 (by omega)).trans p1
    have a2 := (hs.block (i := g) p6 (by omega)).trans p2
    exact ⟨by rw [cell_of a1]; rfl, by rw [cell_of a1]; rfl, by rw [cell_of a2]; rfl, by rw [cell_of a2]; rfl, by rw [cell_of a2]; rfl, by rw [cell_of a2]; rfl⟩
  have HNum : Hid (∀ l u (z : Nat), StB m l w2 u → l.length ≤ 100 → Calls Tryz.prog 88 #[.pointer (some ⟨m, 0, none⟩), .int .u64 (z : Int)] u fun e w' => e = .returned (.tuple #[]) ∧ StB m (l ++ le8J z) w2 w') := fun l u z hs hl => by
    obtain ⟨A, h1, h2, h3⟩ := hs.call
    exact (jwnum_any m l z u A h1 (by omega)).mono fun e w' ⟨e1, e2⟩ => ⟨e1, h3 _ _ e2⟩
  have HWr : Hid (∀ l u, StB m l w2 u → l.length ≤ 100 → Calls Tryz.prog 89 #[.pointer (some ⟨m, 0, none⟩), .agg #[.string t, .string k, .bool false, .slice (some ⟨x, 0, none⟩) 1 1]] u fun e w' => e = .returned (.tuple #[]) ∧ StB m (l ++ writeJ t k n) w2 w') := fun l u hs hl => by
    obtain ⟨A, h1, h2, h3⟩ := hs.call
    obtain ⟨p1, p2, p3, p4, p5, p6, p7, p8⟩ := HF.out
    have hxu : OneAt u x 2 (n : Int) ByteArray.empty := by
      obtain ⟨_, _, _, hT⟩ := id hs
      exact oneAt_turn p3 hT (by omega)
    exact (jwwrite_any m x n t k l u A h1 hxu (fun hf => by have := h2 _ hf; omega) hn ht hk (by omega)).mono fun e w' ⟨e1, e2⟩ => ⟨e1, h3 _ _ e2⟩
  have HW2 : Hid (w1.alloc (.cells #[.slice none 0 0] 140) = w2) := hw2
  obtain ⟨c0, c1, -, -, -, -⟩ := HCell.out _ _ S0.out
  have d0 : w1.cell? ⟨w.heap.size, 0, none⟩ = some (.int .u64 (T : Int)) := by rw [cell_of hq1]; rfl
  have d1 : w1.cell? ⟨w.heap.size, 1, none⟩ = some (.slice (some ⟨g, 0, none⟩) 1 1) := by rw [cell_of hq1]; rfl
  have hlm : w.heap.size < m := by omega
  have hne : w.heap.size ≠ m := by omega
  have e0 : (w1.alloc (.cells #[.slice none 0 0] 140)).cell? ⟨w.heap.size, 0, none⟩ = some (.int .u64 (T : Int)) := by rw [hw2]; exact c0
  have e1 : (w1.alloc (.cells #[.slice none 0 0] 140)).cell? ⟨w.heap.size, 1, none⟩ = some (.slice (some ⟨g, 0, none⟩) 1 1) := by rw [hw2]; exact c1
  clear hB1 hq1 hb2 hw2 hms HC hb1
  go_wp2_with fail
  rw [HW2.out]
  refine (HNum.out [] w2 T S0.out (by decide)).mono ?_
  rintro e w3 ⟨rfl, hs3⟩
  rw [List.nil_append] at hs3
  have S3 : Hid (StB m (le8J T) w2 w3) := hs3
  clear hs3 c0 c1 d0 d1 e0 e1
  obtain ⟨c0, c1, -, -, -, -⟩ := HCell.out _ _ S3.out
  have HN1 : Hid (Calls Tryz.prog 88 #[.pointer (some ⟨m, 0, none⟩), .int .u64 1] w3 fun e w' => e = .returned (.tuple #[]) ∧ StB m (le8J T ++ le8J 1) w2 w') := HNum.out (le8J T) w3 1 S3.out (by rw [le8J_length]; decide)
  go_wp2_with fail
  refine HN1.out.mono ?_
  rintro e w4 ⟨rfl, hs4⟩
  have S4 : Hid (StB m (le8J T ++ le8J 1) w2 w4) := hs4
  clear hs4 c0 c1 HN1
  obtain ⟨c0, c1, c2, c3, c4, c5⟩ := HCell.out _ _ S4.out
  go_wp2_with fail
  refine wp_loop_rounds 2 ?_
  rw [rounds_succ]
  have HWr4 : Hid (∀ o, Calls Tryz.prog 89 #[.pointer (some ⟨m, 0, none⟩), .agg #[.string t, .string k, .bool false, .slice (some ⟨x, 0, none⟩) 1 1]] (w4.alloc o) fun e w' => e = .returned (.tuple #[]) ∧ StB m (le8J T ++ le8J 1 ++ writeJ t k n) w2 w') := fun o => HWr.out _ _ (S4.out.below ((Below.refl _ _).alloc (Nat.le_refl _) o)) (by rw [List.length_append, le8J_length, le8J_length]; decide)
  go_wp2_with fail
  refine (HWr4.out _).mono ?_
  rintro e w5 ⟨rfl, hs5⟩
  obtain ⟨A, c, q0, q1⟩ := hs5.slot
  rw [HEq.out] at q1
  obtain ⟨L, hL⟩ : ∃ L, (le8J T ++ le8J 1 ++ writeJ t k n).length = L := ⟨_, rfl⟩
  rw [hL] at q0 q1
  have HB5 : Hid (Below w.heap.size w w5) := by
    obtain ⟨_, _, _, hT⟩ := hs5
    obtain ⟨p1, p2, p3, p4, p5, p6, p7, p8⟩ := HF.out
    exact p4.trans ((hT.mono (S' := fun i => w.heap.size ≤ i) (fun i hi => by omega)).toBelow p4.size)
  clear hs5 c0 c1 c2 c3 c4 c5 hL
  go_wp2_with fail
  rw [rounds_succ]
  go_wp2_with fail
  go_ret
  exact ⟨rfl, HB5.out⟩
end Go.Proofs.YtigegdelhpdlhaaGreatDoor
