import Derived.Test.YtigegdelhpdlhaaGreatDoorJAddJ
/- Layer 18: the log's calls over their closures. (By jcall.py.) -/
namespace Go.Proofs.YtigegdelhpdlhaaGreatDoor
open Go.RowKit QP

abbrev logO (l : Nat) : Obj := .cells #[.pointer (some ⟨l, 0, none⟩)] 29 (0, 0)
abbrev entO (T g : Nat) : Obj := .cells #[.int .u64 (T : Int), .slice (some ⟨g, 0, none⟩) 1 1] 42 (0, 0)
section
variable {I' : World → (Nat → Prop) → Prop} {F : Nat → Prop}
set_option maxRecDepth 100000 in
set_option maxHeartbeats 1000000 in
theorem jAdd_ok (R : Res I') (l i T g : Nat) (w : World) (hF : ∀ i, F i → i < w.heap.size) (h : ∀ u, Below w.heap.size w u → Calls Tryz.prog 37 #[.pointer (some ⟨l, 0, none⟩), .int .i64 (i : Int), .agg #[.int .u64 (T : Int), .slice (some ⟨g, 0, none⟩) 1 1]] u fun r w' => r = .returned (.tuple #[]) ∧ Goes I' u w' F) :
    Calls Tryz.prog 15 #[.pointer (some ⟨l, 0, none⟩), .int .i64 (i : Int), .agg #[.int .u64 (T : Int), .slice (some ⟨g, 0, none⟩) 1 1]] w fun r w' => r = .returned (.int .i64 0) ∧ Goes I' w w' F := by
  have hmf : ∀ (fn : Fn) (first cap : Array Value) (w : World), (Instr.makeFunc fn first cap).run Tryz.prog w = .ok (.func fn first cap) w := fun _ _ _ _ => rfl
  obtain ⟨q, hq⟩ : ∃ q, w.heap.size = q := ⟨_, rfl⟩
  obtain ⟨wT, hwT⟩ : ∃ u, ((w.alloc (logO l)).alloc (numO (i : Int))).alloc (entO T g) = u := ⟨_, rfl⟩
  have b1 : Below w.heap.size w (w.alloc (logO l)) := (Below.refl _ _).alloc (Nat.le_refl _) _
  have b2 := b1.alloc b1.size (numO (i : Int))
  have b3 := b2.alloc b2.size (entO T g)
  have hn0 := (Below.heap_alloc _ (entO T g) w.heap.size (by simp; omega)).trans ((Below.heap_alloc _ (numO (i : Int)) w.heap.size (by simp)).trans (heap_new w (logO l)))
  have hn1 := (Below.heap_alloc _ (entO T g) (w.alloc (logO l)).heap.size (by simp)).trans (heap_new (w.alloc (logO l)) (numO (i : Int)))
  have hn2 := heap_new ((w.alloc (logO l)).alloc (numO (i : Int))) (entO T g)
  rw [World.size_alloc, hq] at hn1
  rw [World.size_alloc, World.size_alloc, hq] at hn2
  rw [hq] at hn0
  rw [hwT] at hn0 hn1 hn2 b3
  have hbT : Below w.heap.size w wT := b3
  have HD : Hid (Calls Tryz.prog 35 #[.func (.func 36) #[] #[.pointer (some ⟨q, 0, none⟩), .pointer (some ⟨q + 1, 0, none⟩), .pointer (some ⟨q + 2, 0, none⟩)]] wT fun r w' => r = .returned (.int .i64 0) ∧ Goes I' wT w' F) := by
    refine done3_goes_ok R 36 _ _ _ wT (fun j hj => Nat.lt_of_lt_of_le (hF j hj) hbT.size) (enters_of Tryz.func36 (by kernel_rfl) rfl _) fun u hu => ?_
    have HC : Hid (Calls Tryz.prog 37 #[.pointer (some ⟨l, 0, none⟩), .int .i64 (i : Int), .agg #[.int .u64 (T : Int), .slice (some ⟨g, 0, none⟩) 1 1]] u fun r w' => r = .returned (.tuple #[]) ∧ Goes I' u w' F) := h u (hbT.trans (hu.mono hbT.size))
    have h0 := (hu.block _ (lt_of hn0)).trans hn0
    have h1 := (hu.block _ (lt_of hn1)).trans hn1
    have h2 := (hu.block _ (lt_of hn2)).trans hn2
    have d0 : u.cell? ⟨q, 0, none⟩ = some (.pointer (some ⟨l, 0, none⟩)) := by rw [cell_of h0]; rfl
    have d1 : u.cell? ⟨q + 1, 0, none⟩ = some (.int .i64 (i : Int)) := by rw [cell_of h1]; rfl
    have d2 : u.cell? ⟨q + 2, 0, none⟩ = some (.int .u64 (T : Int)) := by rw [cell_of h2]; rfl
    have d3 : u.cell? ⟨q + 2, 1, none⟩ = some (.slice (some ⟨g, 0, none⟩) 1 1) := by rw [cell_of h2]; rfl
    clear h hn0 hn1 hn2 h0 h1 h2 hwT hbT b1 b2 b3 hu
    go_enter Tryz.func36, Tryz.ntmps36
    go_wp2_with fail
    refine HC.out.mono ?_
    rintro r w1 ⟨rfl, hg⟩
    go_wp2_with fail
    go_end0
    exact ⟨rfl, hg⟩
  have HW : Hid (((w.alloc (logO l)).alloc (numO (i : Int))).alloc (entO T g) = wT) := hwT
  have HB : Hid (Below w.heap.size w wT) := hbT
  clear h hn0 hn1 hn2 hbT hwT b1 b2 b3
  go_enter Tryz.func15, Tryz.ntmps15
  go_wp2_with fail
  rw [HW.out]
  refine HD.out.mono ?_
  rintro r w2 ⟨rfl, hg⟩
  go_wp2_with fail
  go_ret
  exact ⟨rfl, hg.after HB.out⟩

set_option maxRecDepth 100000 in
set_option maxHeartbeats 1000000 in
theorem jAdd_err (n : Int) (R : Res I') (l i T g : Nat) (w : World) (hF : ∀ i, F i → i < w.heap.size) (h : ∀ u, Below w.heap.size w u → Calls Tryz.prog 37 #[.pointer (some ⟨l, 0, none⟩), .int .i64 (i : Int), .agg #[.int .u64 (T : Int), .slice (some ⟨g, 0, none⟩) 1 1]] u fun r w' => r = .panicked (mis n) ∧ Goes I' u w' F) :
    Calls Tryz.prog 15 #[.pointer (some ⟨l, 0, none⟩), .int .i64 (i : Int), .agg #[.int .u64 (T : Int), .slice (some ⟨g, 0, none⟩) 1 1]] w fun r w' => r = .returned (.int .i64 n) ∧ Goes I' w w' F := by
  have hmf : ∀ (fn : Fn) (first cap : Array Value) (w : World), (Instr.makeFunc fn first cap).run Tryz.prog w = .ok (.func fn first cap) w := fun _ _ _ _ => rfl
  obtain ⟨q, hq⟩ : ∃ q, w.heap.size = q := ⟨_, rfl⟩
  obtain ⟨wT, hwT⟩ : ∃ u, ((w.alloc (logO l)).alloc (numO (i : Int))).alloc (entO T g) = u := ⟨_, rfl⟩
  have b1 : Below w.heap.size w (w.alloc (logO l)) := (Below.refl _ _).alloc (Nat.le_refl _) _
  have b2 := b1.alloc b1.size (numO (i : Int))
  have b3 := b2.alloc b2.size (entO T g)
  have hn0 := (Below.heap_alloc _ (entO T g) w.heap.size (by simp; omega)).trans ((Below.heap_alloc _ (numO (i : Int)) w.heap.size (by simp)).trans (heap_new w (logO l)))
  have hn1 := (Below.heap_alloc _ (entO T g) (w.alloc (logO l)).heap.size (by simp)).trans (heap_new (w.alloc (logO l)) (numO (i : Int)))
  have hn2 := heap_new ((w.alloc (logO l)).alloc (numO (i : Int))) (entO T g)
  rw [World.size_alloc, hq] at hn1
  rw [World.size_alloc, World.size_alloc, hq] at hn2
  rw [hq] at hn0
  rw [hwT] at hn0 hn1 hn2 b3
  have hbT : Below w.heap.size w wT := b3
  have HD : Hid (Calls Tryz.prog 35 #[.func (.func 36) #[] #[.pointer (some ⟨q, 0, none⟩), .pointer (some ⟨q + 1, 0, none⟩), .pointer (some ⟨q + 2, 0, none⟩)]] wT fun r w' => r = .returned (.int .i64 n) ∧ Goes I' wT w' F) := by
    refine done3_goes_err R 36 _ _ _ n wT (fun j hj => Nat.lt_of_lt_of_le (hF j hj) hbT.size) (enters_of Tryz.func36 (by kernel_rfl) rfl _) fun u hu => ?_
    have HC : Hid (Calls Tryz.prog 37 #[.pointer (some ⟨l, 0, none⟩), .int .i64 (i : Int), .agg #[.int .u64 (T : Int), .slice (some ⟨g, 0, none⟩) 1 1]] u fun r w' => r = .panicked (mis n) ∧ Goes I' u w' F) := h u (hbT.trans (hu.mono hbT.size))
    have h0 := (hu.block _ (lt_of hn0)).trans hn0
    have h1 := (hu.block _ (lt_of hn1)).trans hn1
    have h2 := (hu.block _ (lt_of hn2)).trans hn2
    have d0 : u.cell? ⟨q, 0, none⟩ = some (.pointer (some ⟨l, 0, none⟩)) := by rw [cell_of h0]; rfl
    have d1 : u.cell? ⟨q + 1, 0, none⟩ = some (.int .i64 (i : Int)) := by rw [cell_of h1]; rfl
    have d2 : u.cell? ⟨q + 2, 0, none⟩ = some (.int .u64 (T : Int)) := by rw [cell_of h2]; rfl
    have d3 : u.cell? ⟨q + 2, 1, none⟩ = some (.slice (some ⟨g, 0, none⟩) 1 1) := by rw [cell_of h2]; rfl
    clear h hn0 hn1 hn2 h0 h1 h2 hwT hbT b1 b2 b3 hu
    go_enter Tryz.func36, Tryz.ntmps36
    go_wp2_with fail
    refine HC.out.mono ?_
    rintro r w1 ⟨rfl, hg⟩
    exact ⟨rfl, rfl, hg⟩
  have HW : Hid (((w.alloc (logO l)).alloc (numO (i : Int))).alloc (entO T g) = wT) := hwT
  have HB : Hid (Below w.heap.size w wT) := hbT
  clear h hn0 hn1 hn2 hbT hwT b1 b2 b3
  go_enter Tryz.func15, Tryz.ntmps15
  go_wp2_with fail
  rw [HW.out]
  refine HD.out.mono ?_
  rintro r w2 ⟨rfl, hg⟩
  go_wp2_with fail
  go_ret
  exact ⟨rfl, hg.after HB.out⟩

set_option maxRecDepth 100000 in
set_option maxHeartbeats 1000000 in
theorem jFlush_ok (R : Res I') (l : Nat) (i : Int) (w : World) (hF : ∀ i, F i → i < w.heap.size) (h : ∀ u, Below w.heap.size w u → Calls Tryz.prog 39 #[.pointer (some ⟨l, 0, none⟩), .int .i64 i] u fun r w' => r = .returned (.tuple #[]) ∧ Goes I' u w' F) :
    Calls Tryz.prog 16 #[.pointer (some ⟨l, 0, none⟩), .int .i64 i] w fun r w' => r = .returned (.int .i64 0) ∧ Goes I' w w' F := by
  have hmf : ∀ (fn : Fn) (first cap : Array Value) (w : World), (Instr.makeFunc fn first cap).run Tryz.prog w = .ok (.func fn first cap) w := fun _ _ _ _ => rfl
  obtain ⟨q, hq⟩ : ∃ q, w.heap.size = q := ⟨_, rfl⟩
  obtain ⟨wT, hwT⟩ : ∃ u, (w.alloc (logO l)).alloc (numO i) = u := ⟨_, rfl⟩
  have b1 : Below w.heap.size w (w.alloc (logO l)) := (Below.refl _ _).alloc (Nat.le_refl _) _
  have b2 := b1.alloc b1.size (numO i)
  have hn0 := (Below.heap_alloc _ (numO i) w.heap.size (by simp)).trans (heap_new w (logO l))
  have hn1 := heap_new (w.alloc (logO l)) (numO i)
  rw [World.size_alloc, hq] at hn1
  rw [hq] at hn0
  rw [hwT] at hn0 hn1 b2
  have hbT : Below w.heap.size w wT := b2
  have HD : Hid (Calls Tryz.prog 35 #[.func (.func 38) #[] #[.pointer (some ⟨q, 0, none⟩), .pointer (some ⟨q + 1, 0, none⟩)]] wT fun r w' => r = .returned (.int .i64 0) ∧ Goes I' wT w' F) := by
    refine done2_goes_ok R 38 _ _ wT (fun j hj => Nat.lt_of_lt_of_le (hF j hj) hbT.size) (enters_of Tryz.func38 (by kernel_rfl) rfl _) fun u hu => ?_
    have HC : Hid (Calls Tryz.prog 39 #[.pointer (some ⟨l, 0, none⟩), .int .i64 i] u fun r w' => r = .returned (.tuple #[]) ∧ Goes I' u w' F) := h u (hbT.trans (hu.mono hbT.size))
    have h0 := (hu.block _ (lt_of hn0)).trans hn0
    have h1 := (hu.block _ (lt_of hn1)).trans hn1
    have d0 : u.cell? ⟨q, 0, none⟩ = some (.pointer (some ⟨l, 0, none⟩)) := by rw [cell_of h0]; rfl
    have d1 : u.cell? ⟨q + 1, 0, none⟩ = some (.int .i64 i) := by rw [cell_of h1]; rfl
    clear h hn0 hn1 h0 h1 hwT hbT b1 b2 hu
    go_enter Tryz.func38, Tryz.ntmps38
    go_wp2_with fail
    refine HC.out.mono ?_
    rintro r w1 ⟨rfl, hg⟩
    go_wp2_with fail
    go_end0
    exact ⟨rfl, hg⟩
  have HW : Hid ((w.alloc (logO l)).alloc (numO i) = wT) := hwT
  have HB : Hid (Below w.heap.size w wT) := hbT
  clear h hn0 hn1 hbT hwT b1 b2
  go_enter Tryz.func16, Tryz.ntmps16
  go_wp2_with fail
  rw [HW.out]
  refine HD.out.mono ?_
  rintro r w2 ⟨rfl, hg⟩
  go_wp2_with fail
  go_ret
  exact ⟨rfl, hg.after HB.out⟩

set_option maxRecDepth 100000 in
set_option maxHeartbeats 1000000 in
theorem jMark_ok (R : Res I') (l : Nat) (i : Int) (w : World) (hF : ∀ i, F i → i < w.heap.size) (h : ∀ u, Below w.heap.size w u → Calls Tryz.prog 41 #[.pointer (some ⟨l, 0, none⟩), .int .i64 i] u fun r w' => r = .returned (.tuple #[]) ∧ Goes I' u w' F) :
    Calls Tryz.prog 17 #[.pointer (some ⟨l, 0, none⟩), .int .i64 i] w fun r w' => r = .returned (.int .i64 0) ∧ Goes I' w w' F := by
  have hmf : ∀ (fn : Fn) (first cap : Array Value) (w : World), (Instr.makeFunc fn first cap).run Tryz.prog w = .ok (.func fn first cap) w := fun _ _ _ _ => rfl
  obtain ⟨q, hq⟩ : ∃ q, w.heap.size = q := ⟨_, rfl⟩
  obtain ⟨wT, hwT⟩ : ∃ u, (w.alloc (logO l)).alloc (numO i) = u := ⟨_, rfl⟩
  have b1 : Below w.heap.size w (w.alloc (logO l)) := (Below.refl _ _).alloc (Nat.le_refl _) _
  have b2 := b1.alloc b1.size (numO i)
  have hn0 := (Below.heap_alloc _ (numO i) w.heap.size (by simp)).trans (heap_new w (logO l))
  have hn1 := heap_new (w.alloc (logO l)) (numO i)
  rw [World.size_alloc, hq] at hn1
  rw [hq] at hn0
  rw [hwT] at hn0 hn1 b2
  have hbT : Below w.heap.size w wT := b2
  have HD : Hid (Calls Tryz.prog 35 #[.func (.func 40) #[] #[.pointer (some ⟨q, 0, none⟩), .pointer (some ⟨q + 1, 0, none⟩)]] wT fun r w' => r = .returned (.int .i64 0) ∧ Goes I' wT w' F) := by
    refine done2_goes_ok R 40 _ _ wT (fun j hj => Nat.lt_of_lt_of_le (hF j hj) hbT.size) (enters_of Tryz.func40 (by kernel_rfl) rfl _) fun u hu => ?_
    have HC : Hid (Calls Tryz.prog 41 #[.pointer (some ⟨l, 0, none⟩), .int .i64 i] u fun r w' => r = .returned (.tuple #[]) ∧ Goes I' u w' F) := h u (hbT.trans (hu.mono hbT.size))
    have h0 := (hu.block _ (lt_of hn0)).trans hn0
    have h1 := (hu.block _ (lt_of hn1)).trans hn1
    have d0 : u.cell? ⟨q, 0, none⟩ = some (.pointer (some ⟨l, 0, none⟩)) := by rw [cell_of h0]; rfl
    have d1 : u.cell? ⟨q + 1, 0, none⟩ = some (.int .i64 i) := by rw [cell_of h1]; rfl
    clear h hn0 hn1 h0 h1 hwT hbT b1 b2 hu
    go_enter Tryz.func40, Tryz.ntmps40
    go_wp2_with fail
    refine HC.out.mono ?_
    rintro r w1 ⟨rfl, hg⟩
    go_wp2_with fail
    go_end0
    exact ⟨rfl, hg⟩
  have HW : Hid ((w.alloc (logO l)).alloc (numO i) = wT) := hwT
  have HB : Hid (Below w.heap.size w wT) := hbT
  clear h hn0 hn1 hbT hwT b1 b2
  go_enter Tryz.func17, Tryz.ntmps17
  go_wp2_with fail
  rw [HW.out]
  refine HD.out.mono ?_
  rintro r w2 ⟨rfl, hg⟩
  go_wp2_with fail
  go_ret
  exact ⟨rfl, hg.after HB.out⟩

set_option maxRecDepth 100000 in
set_option maxHeartbeats 1000000 in
theorem jMark_err (n : Int) (R : Res I') (l : Nat) (i : Int) (w : World) (hF : ∀ i, F i → i < w.heap.size) (h : ∀ u, Below w.heap.size w u → Calls Tryz.prog 41 #[.pointer (some ⟨l, 0, none⟩), .int .i64 i] u fun r w' => r = .panicked (mis n) ∧ Goes I' u w' F) :
    Calls Tryz.prog 17 #[.pointer (some ⟨l, 0, none⟩), .int .i64 i] w fun r w' => r = .returned (.int .i64 n) ∧ Goes I' w w' F := by
  have hmf : ∀ (fn : Fn) (first cap : Array Value) (w : World), (Instr.makeFunc fn first cap).run Tryz.prog w = .ok (.func fn first cap) w := fun _ _ _ _ => rfl
  obtain ⟨q, hq⟩ : ∃ q, w.heap.size = q := ⟨_, rfl⟩
  obtain ⟨wT, hwT⟩ : ∃ u, (w.alloc (logO l)).alloc (numO i) = u := ⟨_, rfl⟩
  have b1 : Below w.heap.size w (w.alloc (logO l)) := (Below.refl _ _).alloc (Nat.le_refl _) _
  have b2 := b1.alloc b1.size (numO i)
  have hn0 := (Below.heap_alloc _ (numO i) w.heap.size (by simp)).trans (heap_new w (logO l))
  have hn1 := heap_new (w.alloc (logO l)) (numO i)
  rw [World.size_alloc, hq] at hn1
  rw [hq] at hn0
  rw [hwT] at hn0 hn1 b2
  have hbT : Below w.heap.size w wT := b2
  have HD : Hid (Calls Tryz.prog 35 #[.func (.func 40) #[] #[.pointer (some ⟨q, 0, none⟩), .pointer (some ⟨q + 1, 0, none⟩)]] wT fun r w' => r = .returned (.int .i64 n) ∧ Goes I' wT w' F) := by
    refine done2_goes_err R 40 _ _ n wT (fun j hj => Nat.lt_of_lt_of_le (hF j hj) hbT.size) (enters_of Tryz.func40 (by kernel_rfl) rfl _) fun u hu => ?_
    have HC : Hid (Calls Tryz.prog 41 #[.pointer (some ⟨l, 0, none⟩), .int .i64 i] u fun r w' => r = .panicked (mis n) ∧ Goes I' u w' F) := h u (hbT.trans (hu.mono hbT.size))
    have h0 := (hu.block _ (lt_of hn0)).trans hn0
    have h1 := (hu.block _ (lt_of hn1)).trans hn1
    have d0 : u.cell? ⟨q, 0, none⟩ = some (.pointer (some ⟨l, 0, none⟩)) := by rw [cell_of h0]; rfl
    have d1 : u.cell? ⟨q + 1, 0, none⟩ = some (.int .i64 i) := by rw [cell_of h1]; rfl
    clear h hn0 hn1 h0 h1 hwT hbT b1 b2 hu
    go_enter Tryz.func40, Tryz.ntmps40
    go_wp2_with fail
    refine HC.out.mono ?_
    rintro r w1 ⟨rfl, hg⟩
    exact ⟨rfl, rfl, hg⟩
  have HW : Hid ((w.alloc (logO l)).alloc (numO i) = wT) := hwT
  have HB : Hid (Below w.heap.size w wT) := hbT
  clear h hn0 hn1 hbT hwT b1 b2
  go_enter Tryz.func17, Tryz.ntmps17
  go_wp2_with fail
  rw [HW.out]
  refine HD.out.mono ?_
  rintro r w2 ⟨rfl, hg⟩
  go_wp2_with fail
  go_ret
  exact ⟨rfl, hg.after HB.out⟩

end
end Go.Proofs.YtigegdelhpdlhaaGreatDoor

/- Layer 18: a log is opened. -/
namespace Go.Proofs.YtigegdelhpdlhaaGreatDoor
open Go.RowKit QP

theorem infoWk : (Tryz.prog.info? 95).map (fun i => (i.zero, i.size, i.bytes)) = some (some (.agg #[.slice none 0 0, .int .u64 0]), 2, 32) := by kernel_rfl
abbrev vsN (n : Nat) : List Value := List.replicate n (.slice none 0 0)
abbrev wsN (n : Nat) : List Wk := List.replicate n ([], 0)
theorem make_wk (n : Nat) (hn : n = 1 ∨ n = 2 ∨ n = 3) : ∃ C : Array Value, C.toList = flat enWv ((vsN n).zip ((wsN n).map (·.2))) ∧ ∀ W : World, (Instr.makeSlice 100 (.int .i64 (n : Int)) (.int .i64 (n : Int))).run Tryz.prog W = .ok (.slice (some ⟨W.heap.size, 0, none⟩) n n) (W.alloc (.cells C 95)) := by
  refine ⟨madeCells (Value.agg #[.slice none 0 0, .int .u64 0]).cells (n * 2), ?_, fun W => make_anyJ Tryz.underlying100 infoWk W n (by omega) (by omega)⟩
  rcases hn with rfl | rfl | rfl <;> kernel_rfl

/-- a disk as it is, and a log behind it -/
theorem open_end {t k : ByteArray} {d l b n D G : Nat} {s : Dk.Dsk} {w w3 wX : World} {F F3 : Nat → Prop} {C : Array Value} (h3 : DiskI d s w3 F3) (t3 : Turn F w w3) (n3 : ∀ i, F3 i → F i ∨ w.heap.size ≤ i)
    (hX : Below w3.heap.size w3 wX) (hb : wX.heap[b]? = some (.cells C 95 (0, 0))) (hC : C.toList = flat enWv ((vsN n).zip ((wsN n).map (·.2))))
    (hl : wX.heap[l]? = some (.cells #[.pointer (some ⟨d, 0, none⟩), .slice (some ⟨b, 0, none⟩) n n, .int .i64 (D : Int), .int .i64 (G : Int)] 103 (0, 0))) (hb3 : w3.heap.size ≤ b) (hl3 : w3.heap.size ≤ l) (hn : n ≤ 16) :
    Goes (Sep (DiskI d s) (LogI t k l d ⟨wsN n, D, G⟩)) w wX F := by
  have hown : ∀ v ∈ vsN n, v.ownBlock = none := fun v hv => by
    rw [(List.mem_replicate.1 hv).2]
    rfl
  have hG : LogG wX t k l d b (vsN n) ⟨wsN n, D, G⟩ := by
    refine ⟨by simpa using hl, ⟨C, hb, hC⟩, by simp, fun i v wk hv hw => ?_, fun i j a c g _ ha _ e => ?_, by simpa using hn, fun wk hw => ?_⟩
    · have h1 := List.mem_of_getElem? hv
      have h2 := List.mem_of_getElem? hw
      rw [(List.mem_replicate.1 h1).2, (List.mem_replicate.1 h2).2]
      exact ⟨rfl, Or.inl ⟨rfl, rfl⟩⟩
    · rw [hown a (List.mem_of_getElem? ha)] at e
      cases e
    · rw [(List.mem_replicate.1 hw).2]
      exact ⟨by simp, by decide⟩
  have hF : ∀ i, footL l b (vsN n) i → w3.heap.size ≤ i := fun i hi => by
    rcases hi with rfl | rfl | ⟨v, hv, e⟩
    · exact hl3
    · exact hb3
    · rw [hown v hv] at e; cases e
  have hD : DiskI d s wX F3 := (DiskI.res d s).kept (S := fun _ => False) h3 (Turn.ofBelow _ hX) (fun _ _ h => h)
  refine ⟨_, Sep.mk hD (J := LogI t k l d ⟨wsN n, D, G⟩) ⟨b, vsN n, hG, fun _ => Iff.rfl⟩ (fun i hi hj => ?_), t3.trans (Turn.ofBelow _ hX), fun i hi => ?_⟩
  · have := (DiskI.res d s).lt h3 i hi
    have := hF i hj
    omega
  · rcases hi with hi | hi
    · exact n3 i hi
    · have := hF i hi
      have := t3.size
      exact Or.inr (by omega)

set_option maxRecDepth 100000 in
set_option maxHeartbeats 2000000 in
theorem jopen_any {d : Nat} {s s2 : Dk.Dsk} {w : World} {F : Nat → Prop} (t k : ByteArray) (n D G : Nat) (h : DiskI d s w F) (hn : n = 1 ∨ n = 2 ∨ n = 3)
    (hL : Calls Tryz.prog 46 #[.pointer (some ⟨d, 0, none⟩)] w fun e w' => ∃ v, e = .returned (.tuple #[v, .int .i64 (D : Int)]) ∧ Below w.heap.size w w')
    (hR : ∀ u F', DiskI d s u F' → Calls Tryz.prog 56 #[.pointer (some ⟨d, 0, none⟩), .int .i64 (D : Int)] u fun e w' => e = .returned (.tuple #[]) ∧ Goes (DiskI d s2) u w' F')
    (hN : ∀ u F', DiskI d s2 u F' → Calls Tryz.prog 57 #[.pointer (some ⟨d, 0, none⟩)] u fun e w' => e = .returned (.int .i64 (G : Int)) ∧ Below u.heap.size u w') :
    Calls Tryz.prog 29 #[.pointer (some ⟨d, 0, none⟩), .int .i64 (n : Int)] w fun e w' => ∃ l, e = .returned (.pointer (some ⟨l, 0, none⟩)) ∧ Goes (Sep (DiskI d s2) (LogI t k l d ⟨wsN n, D, G⟩)) w w' F := by
  obtain ⟨C, hC, hmk⟩ := make_wk n hn
  have HC : Hid (C.toList = flat enWv ((vsN n).zip ((wsN n).map (·.2)))) := hC
  have HL : Hid (Calls Tryz.prog 46 #[.pointer (some ⟨d, 0, none⟩)] w fun e w' => ∃ v, e = .returned (.tuple #[v, .int .i64 (D : Int)]) ∧ Below w.heap.size w w') := hL
  have HR : Hid (∀ u, Below w.heap.size w u → Calls Tryz.prog 56 #[.pointer (some ⟨d, 0, none⟩), .int .i64 (D : Int)] u fun e w' => e = .returned (.tuple #[]) ∧ ∃ F', Hid (DiskI d s2 w' F' ∧ Turn F w w' ∧ ∀ i, F' i → F i ∨ w.heap.size ≤ i)) := fun u hu => by
    refine (hR u F ((DiskI.res d s).kept (S := fun _ => False) h (Turn.ofBelow _ hu) (fun _ _ h => h))).mono ?_
    rintro e w' ⟨e1, F', g1, g2, g3⟩
    exact ⟨e1, F', g1, (Turn.ofBelow _ hu).trans g2, fun i hi => (g3 i hi).imp id fun q => by have := hu.size; omega⟩
  have HNx : Hid (∀ u F', DiskI d s2 u F' → Calls Tryz.prog 57 #[.pointer (some ⟨d, 0, none⟩)] u fun e w' => e = .returned (.int .i64 (G : Int)) ∧ Below u.heap.size u w') := hN
  have HRf : Hid (∀ z u, Calls Tryz.prog 55 #[.bool false, .int .i64 z] u fun r w' => r = .returned (.tuple #[]) ∧ u = w') := fun z u => (refuse_no z u).mono fun _ _ h => ⟨h.1, h.2.symm⟩
  have hn16 : Hid (n ≤ 16) := by show _ ≤ _; omega
  have c1 : ¬ (n : Int) < 1 := by omega
  have c2 : decide (16 < (n : Int)) = false := decide_eq_false (by omega)
  have c3 : decide (16 < n) = false := decide_eq_false (by omega)
  have c4 : decide ((n : Int) < 1) = false := decide_eq_false (by omega)
  have c5 : ¬ (16 : Int) < (n : Int) := by omega
  clear h hL hR hN hC hn
  go_enter Tryz.func29, Tryz.ntmps29
  go_wp2_with (first
    | (go_at_call 55; (with_reducible refine (HRf.out _ _).mono ?_); rintro e w0 ⟨rfl, rfl⟩)
    | (go_at_call 46; (with_reducible refine HL.out.mono ?_); rintro e w1 ⟨v1, rfl, hb1⟩)
    | (go_at_call 56; (with_reducible refine (HR.out _ hb1).mono ?_); rintro e w3 ⟨rfl, F3, H3⟩; clear hb1))
  have HN : Hid (∀ u, Below w3.heap.size w3 u → Calls Tryz.prog 57 #[.pointer (some ⟨d, 0, none⟩)] u fun e w' => e = .returned (.int .i64 (G : Int)) ∧ Below u.heap.size u w') := fun u hu => HNx.out u F3 ((DiskI.res d s2).kept (S := fun _ => False) H3.out.1 (Turn.ofBelow _ hu) (fun _ _ h => h))
  clear HNx
  go_region_with (go_at_call 57; go_must ((with_reducible refine (HN.out _ (by go_grown)).mono ?_); rintro e w5 ⟨rfl, hb5⟩))
  · go_wp2_with fail
    go_ret
    have hs : (w3.alloc (.cells C 95)).drew.heap.size = w3.heap.size + 1 := World.size_alloc w3 _
    have hbX : Below w3.heap.size w3 w5 := ((Below.refl w3.heap.size w3).alloc (Nat.le_refl _) (.cells C 95)).trans (((below_drewN _ 1).trans hb5).mono (by rw [World.size_alloc]; omega))
    have h5 : w5.heap[w3.heap.size]? = some (.cells C 95 (0, 0)) := (hb5.block _ (by omega)).trans (heap_new w3 (.cells C 95))
    have hsz := hb5.size
    exact ⟨_, rfl, open_end H3.out.1 H3.out.2.1 H3.out.2.2 (b := w3.heap.size) (l := w5.heap.size) (C := C) (hbX.alloc hbX.size _) ((Below.heap_alloc w5 _ _ (lt_of h5)).trans h5) HC.out (heap_new w5 _) (Nat.le_refl _) (by omega) hn16.out⟩
  · go_wp2_with fail
    go_ret
    have hbX : Below w3.heap.size w3 w5 := (below_drewN _ 1).trans hb5
    have hsz : w3.heap.size ≤ w5.heap.size := hbX.size
    have h5 := heap_new w5 (.cells C 95)
    have hb6 := hbX.alloc hsz (.cells C 95)
    exact ⟨_, rfl, open_end H3.out.1 H3.out.2.1 H3.out.2.2 (b := w5.heap.size) (l := w5.heap.size + 1) (C := C) (hb6.alloc (by rw [World.size_alloc]; omega) _) ((Below.heap_alloc _ _ _ (by rw [World.size_alloc]; omega)).trans h5) HC.out (by rw [← World.size_alloc w5 (.cells C 95)]; exact heap_new _ _) hsz (by omega) hn16.out⟩
end Go.Proofs.YtigegdelhpdlhaaGreatDoor
