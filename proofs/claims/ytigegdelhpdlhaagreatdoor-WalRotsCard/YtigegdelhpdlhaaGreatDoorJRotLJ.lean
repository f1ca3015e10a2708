import Derived.Test.YtigegdelhpdlhaaGreatDoorJStep2J
import Derived.Test.YtigegdelhpdlhaaGreatDoorFFrameJ
import Derived.Lib.ConvBytes
/- Layer 18: wal.Load's error. -/
namespace Go.Proofs.YtigegdelhpdlhaaGreatDoor
open Go.RowKit QP

section
variable {d : Nat}
set_option maxRecDepth 100000 in
set_option maxHeartbeats 1000000 in
theorem jLoad1_err (n : Int) (p y z : Nat) (u : World) (hp : u.heap[p]? = some (.cells #[.pointer (some ⟨d, 0, none⟩)] 23 (0, 0)))
    (h : Calls Tryz.prog 46 #[.pointer (some ⟨d, 0, none⟩)] u fun e w' => e = .panicked (mis n) ∧ Below u.heap.size u w') :
    Calls Tryz.prog 45 #[.pointer (some ⟨p, 0, none⟩), .pointer (some ⟨y, 0, none⟩), .pointer (some ⟨z, 0, none⟩)] u fun r w' => r = .panicked (mis n) ∧ Below u.heap.size u w' := by
  have HC : Hid (Calls Tryz.prog 46 #[.pointer (some ⟨d, 0, none⟩)] u fun e w' => e = .panicked (mis n) ∧ Below u.heap.size u w') := h
  have dp : u.cell? ⟨p, 0, none⟩ = some (.pointer (some ⟨d, 0, none⟩)) := by rw [cell_of hp]; rfl
  clear h hp
  go_enter Tryz.func45, Tryz.ntmps45
  go_wp2_with fail
  refine HC.out.mono ?_
  rintro e w1 ⟨rfl, hb⟩
  exact ⟨rfl, rfl, hb⟩

set_option maxRecDepth 100000 in
set_option maxHeartbeats 2000000 in
theorem jLoad_err (n : Int) (w : World) (h : ∀ u, Below w.heap.size w u → Calls Tryz.prog 46 #[.pointer (some ⟨d, 0, none⟩)] u fun e w' => e = .panicked (mis n) ∧ Below u.heap.size u w') :
    Calls Tryz.prog 19 #[.pointer (some ⟨d, 0, none⟩)] w fun e w' => e = .returned (.tuple #[.slice none 0 0, .int .i64 0, .int .i64 n]) ∧ Below w.heap.size w w' := by
  have hmf : ∀ (fn : Fn) (first cap : Array Value) (w : World), (Instr.makeFunc fn first cap).run Tryz.prog w = .ok (.func fn first cap) w := fun _ _ _ _ => rfl
  obtain ⟨q, hq⟩ : ∃ q, w.heap.size = q := ⟨_, rfl⟩
  obtain ⟨wT, hwT⟩ : ∃ u, ((w.alloc (.cells #[.pointer (some ⟨d, 0, none⟩)] 23)).alloc (lisO (.slice none 0 0))).alloc (numO 0) = u := ⟨_, rfl⟩
  have b1 : Below w.heap.size w (w.alloc (.cells #[.pointer (some ⟨d, 0, none⟩)] 23)) := (Below.refl _ _).alloc (Nat.le_refl _) _
  have b2 := b1.alloc b1.size (lisO (.slice none 0 0))
  have b3 := b2.alloc b2.size (numO 0)
  have hn0 := (Below.heap_alloc _ (numO 0) w.heap.size (by simp; omega)).trans ((Below.heap_alloc _ (lisO (.slice none 0 0)) w.heap.size (by simp)).trans (heap_new w (.cells #[.pointer (some ⟨d, 0, none⟩)] 23)))
  have hn1 := (Below.heap_alloc _ (numO 0) (w.alloc (.cells #[.pointer (some ⟨d, 0, none⟩)] 23)).heap.size (by simp)).trans (heap_new (w.alloc (.cells #[.pointer (some ⟨d, 0, none⟩)] 23)) (lisO (.slice none 0 0)))
  have hn2 := heap_new ((w.alloc (.cells #[.pointer (some ⟨d, 0, none⟩)] 23)).alloc (lisO (.slice none 0 0))) (numO 0)
  have hsz : wT.heap.size = q + 3 := by rw [← hwT]; simp [hq]
  rw [World.size_alloc, hq] at hn1
  rw [World.size_alloc, World.size_alloc, hq] at hn2
  rw [hq] at hn0
  rw [hwT] at hn0 hn1 hn2 b3
  have hbT : Below w.heap.size w wT := b3
  have HD : Hid (Calls Tryz.prog 35 #[.func (.func 45) #[] #[.pointer (some ⟨q, 0, none⟩), .pointer (some ⟨q + 1, 0, none⟩), .pointer (some ⟨q + 2, 0, none⟩)]] wT fun r w' => r = .returned (.int .i64 n) ∧ w'.heap[q + 1]? = some (lisO (.slice none 0 0)) ∧ w'.heap[q + 2]? = some (numO 0) ∧ Below w.heap.size w w') := by
    have hbe : Below wT.heap.size wT (wT.alloc (errO 0)) := (Below.refl _ _).alloc (Nat.le_refl _) _
    refine (done3_err 45 _ _ _ n wT (fun w' => Below (wT.alloc (errO 0)).heap.size (wT.alloc (errO 0)) w') (enters_of Tryz.func45 (by kernel_rfl) rfl _) ?_ ?_).mono ?_
    · exact jLoad1_err n q (q + 1) (q + 2) (wT.alloc (errO 0)) ((hbe.block _ (by omega)).trans hn0) (h _ (hbT.trans (hbe.mono (by omega))))
    · intro w' hB
      exact (hB.block wT.heap.size (by simp)).trans (heap_new wT (errO 0))
    · rintro r w' ⟨e1, w1, hB, rfl⟩
      have hsE : (wT.alloc (errO 0)).heap.size = q + 4 := by rw [World.size_alloc]; omega
      have hy1 := (hB.block (q + 1) (by omega)).trans ((hbe.block (q + 1) (by omega)).trans hn1)
      have hz1 := (hB.block (q + 2) (by omega)).trans ((hbe.block (q + 2) (by omega)).trans hn2)
      have hb4 : Below w.heap.size w w1 := (hbT.trans (hbe.mono (by omega))).trans (hB.mono (by rw [hsE]; omega))
      have hT : Turn (fun i => w.heap.size ≤ i) w1 (w1.setCell ⟨wT.heap.size, 0, none⟩ (.int .i64 n)) := Turn.setCell _ ⟨wT.heap.size, 0, none⟩ _ (by show _ ≤ wT.heap.size; omega)
      exact ⟨e1, (Below.heap_setCell _ ⟨wT.heap.size, 0, none⟩ _ _ (by show q + 1 ≠ wT.heap.size; omega)).trans hy1, (Below.heap_setCell _ ⟨wT.heap.size, 0, none⟩ _ _ (by show q + 2 ≠ wT.heap.size; omega)).trans hz1, hb4.trans (hT.toBelow hb4.size)⟩
  have HW : Hid (((w.alloc (.cells #[.pointer (some ⟨d, 0, none⟩)] 23)).alloc (lisO (.slice none 0 0))).alloc (numO 0) = wT) := hwT
  clear h hn0 hn1 hn2 hsz hbT hwT b1 b2 b3
  go_enter Tryz.func19, Tryz.ntmps19
  go_wp2_with fail
  rw [HW.out]
  refine HD.out.mono ?_
  rintro r w2 ⟨rfl, hy2, hz2, hB2⟩
  have y0 : w2.cell? ⟨q + 1, 0, none⟩ = some (.slice none 0 0) := by rw [cell_of hy2]; rfl
  have z0 : w2.cell? ⟨q + 2, 0, none⟩ = some (.int .i64 0) := by rw [cell_of hz2]; rfl
  have fy := frozen_of hy2 0
  have fz := frozen_of hz2 0
  have HH : Hid (w2.heap[q + 1]? = some (lisO (.slice none 0 0)) ∧ w2.heap[q + 2]? = some (numO 0) ∧ Below w.heap.size w w2) := ⟨hy2, hz2, hB2⟩
  clear hy2 hz2 hB2
  go_wp2_with fail
  go_region
  have hTy := heap_setCell_same HH.out.1 0 (.slice none 0 0)
  have hTz := (Below.heap_setCell w2 ⟨q + 1, 0, none⟩ (.slice none 0 0) (q + 2) (by show q + 2 ≠ q + 1; omega)).trans HH.out.2.1
  have hTz2 := heap_setCell_same hTz 0 (.int .i64 0)
  have hTy2 := (Below.heap_setCell (w2.setCell ⟨q + 1, 0, none⟩ (.slice none 0 0)) ⟨q + 2, 0, none⟩ (.int .i64 0) (q + 1) (by show q + 1 ≠ q + 2; omega)).trans hTy
  have HF : Hid (Below w.heap.size w ((w2.setCell ⟨q + 1, 0, none⟩ (.slice none 0 0)).setCell ⟨q + 2, 0, none⟩ (.int .i64 0)).drew) := by
    obtain ⟨_, _, p5⟩ := HH.out
    have hT : Turn (fun i => w.heap.size ≤ i) w2 ((w2.setCell ⟨q + 1, 0, none⟩ (.slice none 0 0)).setCell ⟨q + 2, 0, none⟩ (.int .i64 0)) :=
      (Turn.setCell (S := fun i => w.heap.size ≤ i) w2 ⟨q + 1, 0, none⟩ _ (by show _ ≤ q + 1; omega)).trans (Turn.setCell _ ⟨q + 2, 0, none⟩ _ (by show _ ≤ q + 2; omega))
    exact (p5.trans (hT.toBelow p5.size)).trans ((below_drewN _ 1).mono (Nat.le_trans p5.size hT.size))
  rw [show q + 1 + 1 = q + 2 from rfl]
  obtain ⟨we, hwe⟩ : ∃ we, ((w2.setCell ⟨q + 1, 0, none⟩ (.slice none 0 0)).setCell ⟨q + 2, 0, none⟩ (.int .i64 0)).drew = we := ⟨_, rfl⟩
  have r0 : we.cell? ⟨q + 1, 0, none⟩ = some (.slice none 0 0) := by
    rw [← hwe]
    show ((w2.setCell ⟨q + 1, 0, none⟩ (.slice none 0 0)).setCell ⟨q + 2, 0, none⟩ (.int .i64 0)).cell? _ = _
    rw [cell_of hTy2]; rfl
  have r1 : we.cell? ⟨q + 2, 0, none⟩ = some (.int .i64 0) := by
    rw [← hwe]
    show ((w2.setCell ⟨q + 1, 0, none⟩ (.slice none 0 0)).setCell ⟨q + 2, 0, none⟩ (.int .i64 0)).cell? _ = _
    rw [cell_of hTz2]; rfl
  rw [hwe] at HF ⊢
  clear hTy hTz hTy2 hTz2 HH y0 z0 fy fz hwe
  go_wp2_with fail
  refine bodyPost_ret (v := .tuple #[.slice none 0 0, .int .i64 0, .int .i64 n]) (by simp [results, Tryz.results19, go_sem, r0, r1]) rfl ?_
  exact ⟨rfl, HF.out⟩
end

theorem readV_ok {s : Dk.Dsk} {k : List UInt8} (h : Dk.okName k = true) : Dk.readV s k = (Dk.fileOr (Dk.getL k s.fs)).data := by
  unfold Dk.readV Dk.findE
  rw [if_pos h]
  cases hg : Dk.getL k s.fs with
  | none => rfl
  | some x => rfl
theorem keys_delL {α : Type} (k : List UInt8) (l : List (List UInt8 × α)) : Dk.keysL (Dk.delL k l) = (Dk.keysL l).filter (fun q => q != k) := by
  unfold Dk.keysL Dk.delL
  rw [List.filter_map]
  rfl
theorem keys_rot : Dk.insN (logB 0 0).data.toList ([epochB.data.toList, (logB 0 0).data.toList].filter (fun q => q != (logB 0 0).data.toList)) = [epochB.data.toList, (logB 0 0).data.toList] := by decide +kernel
/-- the log's file is taken away and written anew, with a byte that is another one -/
theorem rot_disk {s : Dk.Dsk} {t k : ByteArray} {LF : List UInt8 → List (Nat × Nat)} {E : Nat} (h : QDisk s t k LF [E]) (hE : 0 < E ∧ E ≤ 2147483648) (hk : Dk.keysL s.fs = [epochB.data.toList, (logB 0 0).data.toList]) (X : List UInt8) (hX : RotL X) (hl : X.length ≤ 1000) :
    Dk.removeE s (logB 0 0).data.toList = 0 ∧ Dk.appendE (Dk.removeS s (logB 0 0).data.toList) (logB 0 0).data.toList X = 0 ∧ Dk.syncE (Dk.appendS (Dk.removeS s (logB 0 0).data.toList) (logB 0 0).data.toList X) (logB 0 0).data.toList = 0 ∧
    RotD (wrS (Dk.removeS s (logB 0 0).data.toList) (logB 0 0) X) 0 0 E := by
  obtain ⟨r1, r2, r3⟩ := h.remove (v := 0) (g := 0) (by decide) (by decide) (by rw [hk]; simp)
  have hok := (logK_at (v := 0) (g := 0) (by decide) (by decide)).2.2
  obtain ⟨s5, hs5⟩ : ∃ s5, Dk.removeS s (logB 0 0).data.toList = s5 := ⟨_, rfl⟩
  rw [hs5] at r2 r3 ⊢
  have hd0 : (Dk.fileOr (Dk.getL (logB 0 0).data.toList s5.fs)).data = [] := by rw [r3, Dk.getL_del]; rfl
  have hn5 : s5.fs.length < 64 := by
    have h1 : s5.fs.length = (Dk.keysL s5.fs).length := by simp [Dk.keysL]
    rw [h1, r3, keys_delL, hk]
    exact Nat.lt_of_le_of_lt (List.length_filter_le _ _) (by decide)
  obtain ⟨a1, a2, a3, a4, a5, a6, a7, a8, a9, a10, a11⟩ := r2.write (logB 0 0) X (Or.inr (Or.inr ⟨0, 0, by decide, by decide, rfl⟩)) (by rw [hd0]; show 0 + X.length ≤ _; omega) hn5
  rw [hd0, List.nil_append] at a7
  have hne := (logB_ne (v := 0) (g := 0) (by decide) (by decide)).symm
  have hr : Dk.readV (wrS s5 (logB 0 0) X) (logB 0 0).data.toList = X := by
    rw [readV_ok hok, a7]
    rfl
  refine ⟨r1, a1, a2, ⟨?_, ⟨by decide, by decide⟩, ?_, hE, by rw [hr]; exact hX, by rw [hr]; omega⟩⟩
  · rw [a10, r3, keys_delL, hk]
    exact keys_rot
  · rw [readV_ok logK_epoch.2.2.1, a8 _ hne]
    exact r2.marks
end Go.Proofs.YtigegdelhpdlhaaGreatDoor

/- Layer 18: []byte(s), one byte of it changed, string(b). -/
namespace Go.Proofs.YtigegdelhpdlhaaGreatDoor
open Go.RowKit

/-- a block whose first cells are bytes -/
def BytesAt (w : World) (g : Nat) (l : List UInt8) : Prop := ∃ C t fz, w.heap[g]? = some (.cells C t fz) ∧ ∀ j (hj : j < l.length), C[j]? = some (.int .u8 (l[j].toNat : Int))

theorem BytesAt.cell {w : World} {g : Nat} {l : List UInt8} (h : BytesAt w g l) {j : Nat} (hj : j < l.length) : w.cell? ⟨g, j, none⟩ = some (.int .u8 (l[j].toNat : Int)) := by
  obtain ⟨C, t, fz, h1, h2⟩ := h
  rw [cell_of h1]
  exact h2 j hj

theorem BytesAt.set {w : World} {g : Nat} {l : List UInt8} (h : BytesAt w g l) (i : Nat) (c : UInt8) : BytesAt (w.setCell ⟨g, i, none⟩ (.int .u8 (c.toNat : Int))) g (l.set i c) := by
  obtain ⟨C, t, fz, h1, h2⟩ := h
  refine ⟨_, t, fz, heap_setCell_same h1 i _, fun j hj => ?_⟩
  rw [List.length_set] at hj
  have h3 := h2 j hj
  rw [Array.getElem?_setIfInBounds]
  by_cases e : i = j
  · subst e
    have h4 : i < C.size := (Array.getElem?_eq_some_iff.1 h3).1
    simp [h4]
  · rw [if_neg e, h3, List.getElem_set_ne e]

theorem BytesAt.str {w : World} {g : Nat} {l : List UInt8} (h : BytesAt w g l) {n : Nat} (hn : l.length = n) (c : Nat) : (convert 54 9 (.slice (some ⟨g, 0, none⟩) n c)).run Tryz.prog w = .ok (.string (bytesOf l)) w := by
  subst hn
  refine run_convert_bytes_back w 54 9 5 ⟨g, 0, none⟩ c l Tryz.underlying54 Tryz.underlying5 Tryz.underlying9 fun j hj => ?_
  have h1 := h.cell hj
  rw [show (⟨g, 0, none⟩ : Addr).add j = ⟨g, j, none⟩ by cases j <;> simp [Addr.add]]
  exact h1

theorem conv_at (s : ByteArray) (W : World) (g : Nat) (hg : W.heap.size = g) : ∃ u c, (convert 9 54 (.string s)).run Tryz.prog W = .ok (.slice (some ⟨g, 0, none⟩) s.size c) u ∧ Below W.heap.size W u ∧ BytesAt u g s.data.toList ∧ ∀ j, j < s.size → u.frozen? ⟨g, j, none⟩ = false := by
  subst hg
  refine ⟨_, _, Lib.run_convert_string_bytes W 9 54 5 s Tryz.underlying9 Tryz.underlying54 Tryz.underlying5, ?_, ?_, fun j hj => ?_⟩
  · exact ⟨rfl, rfl, rfl, by rw [Lib.bytesWorld_size]; omega, fun j hj => Lib.bytesWorld_at_old W _ s j hj⟩
  · refine ⟨_, _, _, Lib.bytesWorld_at_new W _ s, fun j hj => ?_⟩
    have hj' : j < s.size := hj
    have h := Lib.bytesWorld_cell W 5 s j hj'
    rw [cell_of (Lib.bytesWorld_at_new W _ s)] at h
    rw [h, List.getD, List.getElem?_eq_getElem hj]
    rfl
  · have h := Lib.bytesWorld_at_new W 5 s
    have hs : s.size ≤ (Lib.bytesCells W 5 s).size := by
      unfold Lib.bytesCells
      rw [Array.size_append, Array.size_map]
      exact Nat.le_add_right _ _
    simp only [World.frozen?, h]
    simp
    omega

end Go.Proofs.YtigegdelhpdlhaaGreatDoor
