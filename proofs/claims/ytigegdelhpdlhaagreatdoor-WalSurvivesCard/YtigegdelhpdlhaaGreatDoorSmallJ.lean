import Derived.Test.YtigegdelhpdlhaaGreatDoorPureJ
import Derived.BigQuiet
import Derived.Shelf.SlIter.Nil
import Derived.Shelf.SortM.Plain
import Derived.Shelf.SortM.SortNone
import Derived.Shelf.Bytes.SlClone
import Derived.Ground.GgzProg
import Derived.Ground.SlgmProg
import Derived.Ground.SlbCloneProg
import Derived.Shelf.SlGeneric
import Derived.Test.YtigegdelhpdlhaaGreatDoorProg
/- What the disk's small functions do: change, find, tail, Fuse, New. -/
namespace Go.Proofs.YtigegdelhpdlhaaGreatDoor
open Go.RowKit Go.Maps

theorem ret_intD {k : IntKind} {a b : Int} (h : a = b) : Ending.returned (.int k a) = .returned (.int k b) := by rw [h]

/-- the four cells of a disk's struct -/
theorem DiskG.cells {P : Program} {w : World} {d m : Nat} {G : List (List UInt8 × Gc)} {s : Dk.Dsk} (h : DiskG P w d m G s) :
    w.cell? ⟨d, 0, none⟩ = some (.map (some m)) ∧ w.cell? ⟨d, 0 + 1, none⟩ = some (.bool s.down) ∧ w.cell? ⟨d, 0 + 2, none⟩ = some (.bool s.fused) ∧ w.cell? ⟨d, 0 + 3, none⟩ = some (.int .i64 (s.left : Int)) :=
  ⟨by rw [cell_ofD h.top]; rfl, by rw [cell_ofD h.top]; rfl, by rw [cell_ofD h.top]; rfl, by rw [cell_ofD h.top]; rfl⟩

set_option maxHeartbeats 400000 in
theorem change_any {d m : Nat} {G : List (List UInt8 × Gc)} {s : Dk.Dsk} (w : World) (h : DiskG Tryz.prog w d m G s) :
    Calls Tryz.prog 50 #[.pointer (some ⟨d, 0, none⟩)] w fun e w' => e = .returned (.int .i64 (Dk.changeE s)) ∧ DiskG Tryz.prog w' d m G (Dk.changeS s) ∧ TurnD (fun i => i = d) w w' := by
  have H : Hid (DiskG Tryz.prog w d m G s) := h
  obtain ⟨c0, c1, c2, c3⟩ := h.cells
  have f1 := frozen_ofD h.top 1
  have f3 := frozen_ofD h.top 3
  have hl := h.left
  clear h
  cases hf : s.fused <;> cases hd : s.down <;> rw [hf] at c2 <;> rw [hd] at c1 <;> simp only [Nat.zero_add] at c1 c2 c3
  all_goals go_enter Tryz.func50, Tryz.ntmps50
  all_goals go_wp2
  all_goals go_ret
  · refine ⟨ret_intD (by simp [Dk.changeE, Dk.burnt, hf, hd]), ?_, TurnD.refl _ _⟩
    rw [show Dk.changeS s = s from by simp [Dk.changeS, Dk.burnt, hf, hd]]
    exact H.out
  · refine ⟨ret_intD (by simp [Dk.changeE, Dk.burnt, hd]), ?_, TurnD.refl _ _⟩
    refine H.out.topped (TurnD.refl _ _) ?_ (by simp [Dk.changeS, Dk.burnt, hd]) (by simpa [Dk.changeS, Dk.burnt, hd] using hl)
    rw [H.out.top]
    simp [Dk.changeS, Dk.burnt, hd]
  · have hz : s.left = 0 := by have := eq_of_beq ‹((s.left : Int) == 0) = true›; omega
    refine ⟨ret_intD (by simp [Dk.changeE, Dk.burnt, hf, hz]), ?_, TurnD.setCell _ _ _ rfl⟩
    refine H.out.topped (TurnD.setCell _ _ _ rfl) ?_ (by simp [Dk.changeS, Dk.burnt, hf, hz]) (by simp [Dk.changeS, Dk.burnt, hf, hz])
    rw [heap_setCell_sameD H.out.top]
    simp [Dk.changeS, Dk.burnt, hf, hz]
  · have hz : s.left ≠ 0 := by intro e; rename_i hh; rw [e] at hh; simp at hh
    refine ⟨ret_intD (by simp [Dk.changeE, Dk.burnt, hd, hz]), ?_, TurnD.setCell _ _ _ rfl⟩
    refine H.out.topped (TurnD.setCell _ _ _ rfl) ?_ (by simp [Dk.changeS, Dk.burnt, hf, hd, hz]) (by simp [Dk.changeS, Dk.burnt, hf, hd, hz]; omega)
    rw [heap_setCell_sameD H.out.top]
    simp [Dk.changeS, Dk.burnt, hf, hd, hz]
    omega
  · refine ⟨ret_intD (by simp [Dk.changeE, Dk.burnt, hd]), ?_, TurnD.setCell _ _ _ rfl⟩
    refine H.out.topped (TurnD.setCell _ _ _ rfl) ?_ (by simp [Dk.changeS, Dk.burnt, hd]) (by simpa [Dk.changeS, Dk.burnt, hd] using hl)
    rw [heap_setCell_sameD H.out.top]
    simp [Dk.changeS, Dk.burnt, hd]
  · refine ⟨ret_intD (by simp [Dk.changeE, Dk.burnt, hd]), ?_, TurnD.refl _ _⟩
    refine H.out.topped (TurnD.refl _ _) ?_ (by simp [Dk.changeS, Dk.burnt, hd]) (by simpa [Dk.changeS, Dk.burnt, hd] using hl)
    rw [H.out.top]
    simp [Dk.changeS, Dk.burnt, hd]

set_option maxHeartbeats 400000 in
theorem fuse_any {d m : Nat} {G : List (List UInt8 × Gc)} {s : Dk.Dsk} (n : Int) (w : World) (h : DiskG Tryz.prog w d m G s) (hn : n ≤ 9223372036854775807) :
    Calls Tryz.prog 12 #[.pointer (some ⟨d, 0, none⟩), .int .i64 n] w fun e w' => e = .returned (.int .i64 (Dk.fuseE n)) ∧ DiskG Tryz.prog w' d m G (Dk.fuseS s n) ∧ TurnD (fun i => i = d) w w' := by
  have H : Hid (DiskG Tryz.prog w d m G s) := h
  obtain ⟨c0, c1, c2, c3⟩ := h.cells
  have f2 := frozen_ofD h.top 2
  have f3 := frozen_ofD h.top 3
  simp only [Nat.zero_add] at c1 c2 c3
  clear h
  by_cases hlt : n < 0
  · go_enter Tryz.func12, Tryz.ntmps12
    go_wp2
    go_ret
    refine ⟨ret_intD (by simp [Dk.fuseE, hlt]), ?_, TurnD.refl _ _⟩
    rw [show Dk.fuseS s n = s from by simp [Dk.fuseS, hlt]]
    exact H.out
  · go_enter Tryz.func12, Tryz.ntmps12
    go_wp2
    go_ret
    have ht : ∀ (v v' : Value), TurnD (fun i => i = d) w ((w.setCell ⟨d, 2, none⟩ v).setCell ⟨d, 3, none⟩ v') := fun v v' => (TurnD.setCell (S := fun i => i = d) w ⟨d, 2, none⟩ v rfl).trans (TurnD.setCell _ ⟨d, 3, none⟩ v' rfl)
    have hlt' : ¬ n < 0 := by omega
    refine ⟨ret_intD (by simp [Dk.fuseE, hlt']), ?_, ht _ _⟩
    refine H.out.topped (ht _ _) ?_ (by simp [Dk.fuseS, hlt']) (by simp [Dk.fuseS, hlt']; omega)
    rw [heap_setCell_sameD (heap_setCell_sameD H.out.top _ _)]
    simp [Dk.fuseS, hlt']
    omega

set_option maxHeartbeats 400000 in
theorem new_any (w : World) :
    Calls Tryz.prog 7 #[] w fun e w' => e = .returned (.pointer (some ⟨w.heap.size + 1, 0, none⟩)) ∧ DiskG Tryz.prog w' (w.heap.size + 1) w.heap.size [] Dk.blank ∧ Below w.heap.size w w' := by
  have hmm := @run_makeMap Tryz.prog
  go_enter Tryz.func7, Tryz.ntmps7
  go_wp2
  go_ret
  refine ⟨rfl, ⟨?_, ?_, by simp, List.Pairwise.nil, rfl, by simp, by simp [Dk.blank], by simp⟩, ((Below.refl _ _).alloc (Nat.le_refl _) _).alloc (by simp) _⟩
  · have e := heap_alloc_new (w.alloc (.map #[] 0)) (.cells #[.map (some w.heap.size), .bool false, .bool false, .int .i64 0] 67 (0, 0))
    rw [World.size_alloc] at e
    exact e
  · exact (World.ownsMap_made w Tryz.prog 9 ptrR).alloc _

end Go.Proofs.YtigegdelhpdlhaaGreatDoor

/- Looking a file up: find. -/
namespace Go.Proofs.YtigegdelhpdlhaaGreatDoor
open Go.RowKit Go.Maps

theorem keyed : Keyed Tryz.prog 9 := string_keyed Tryz.underlying9
theorem zeroP (w : World) : (zeroValue 81).run Tryz.prog w = .ok (.pointer none) w := by kernel_rfl

section
variable {w : World} {d m : Nat} {G : List (List UInt8 × Gc)} {s : Dk.Dsk}

theorem DiskG.look_some (h : DiskG Tryz.prog w d m G s) {k : ByteArray} (hk : k.size ≤ maxLen) {g : Gc} (hg : Dk.getL k.data.toList G = some g) :
    (Instr.lookup 65 (.map (some m)) (.string k) true).run Tryz.prog w = .ok (.tuple #[.pointer (some ⟨g.blk, 0, none⟩), .bool true]) w := by
  obtain ⟨v, ps, hrun, hv⟩ := h.map.look_ok keyed Tryz.underlying65 (zeroP w) (zd := .nil) (zp := []) rfl (WideMaps.keyOf_string_mk Tryz.underlying9 hk)
  rw [Dk.toD_at, hg] at hv
  rw [Dk.toD_has, hg] at hrun
  rw [hrun, ptrR_inv hv]
  rfl

theorem DiskG.look_none (h : DiskG Tryz.prog w d m G s) {k : ByteArray} (hk : k.size ≤ maxLen) (hg : Dk.getL k.data.toList G = none) :
    (Instr.lookup 65 (.map (some m)) (.string k) true).run Tryz.prog w = .ok (.tuple #[.pointer none, .bool false]) w := by
  obtain ⟨v, ps, hrun, hv⟩ := h.map.look_ok keyed Tryz.underlying65 (zeroP w) (zd := .nil) (zp := []) rfl (WideMaps.keyOf_string_mk Tryz.underlying9 hk)
  rw [Dk.toD_at, hg] at hv
  rw [Dk.toD_has, hg] at hrun
  rw [hrun, ptrR_nil hv]
  rfl

/-- without 'ok' -/
theorem DiskG.look (h : DiskG Tryz.prog w d m G s) {k : ByteArray} (hk : k.size ≤ maxLen) {g : Gc} (hg : Dk.getL k.data.toList G = some g) :
    (Instr.lookup 65 (.map (some m)) (.string k) false).run Tryz.prog w = .ok (.pointer (some ⟨g.blk, 0, none⟩)) w := by
  obtain ⟨v, ps, hrun, hv⟩ := h.map.lookup keyed Tryz.underlying65 (zeroP w) (zd := .nil) (zp := []) rfl (WideMaps.keyOf_string_mk Tryz.underlying9 hk)
  rw [Dk.toD_at, hg] at hv
  rw [hrun, ptrR_inv hv]

theorem DiskG.getL_fs (h : DiskG Tryz.prog w d m G s) (k : List UInt8) : Dk.getL k s.fs = (Dk.getL k G).map Gc.fil := by rw [h.fs, Dk.getL_mapL]
theorem DiskG.len_fs (h : DiskG Tryz.prog w d m G s) : s.fs.length = G.length := by rw [h.fs, Dk.length_mapL]
end

section
variable {d m : Nat} {G : List (List UInt8 × Gc)} {s : Dk.Dsk}

set_option maxHeartbeats 400000 in
theorem find_bad (k : ByteArray) (w : World) (hk : k.size ≤ maxLen) (ho : Dk.okS k = false) :
    Calls Tryz.prog 49 #[.pointer (some ⟨d, 0, none⟩), .string k] w fun e w' => e = .returned (.tuple #[.pointer none, .int .i64 10]) ∧ w' = w := by
  go_enter Tryz.func49, Tryz.ntmps49
  go_wp2_with (go_at_call 51; refine (nameMayBe_any _ _ hk).mono ?_; rintro e w' ⟨rfl, rfl⟩)
  go_ret2
  exact ⟨rfl, rfl⟩

set_option maxHeartbeats 400000 in
theorem find_none (k : ByteArray) (w : World) (h : DiskG Tryz.prog w d m G s) (hk : k.size ≤ maxLen) (ho : Dk.okS k = true) (hg : Dk.getL k.data.toList G = none) :
    Calls Tryz.prog 49 #[.pointer (some ⟨d, 0, none⟩), .string k] w fun e w' => e = .returned (.tuple #[.pointer none, .int .i64 5]) ∧ w' = w := by
  obtain ⟨c0, -, -, -⟩ := h.cells
  have hr := h.look_none hk hg
  clear h hg
  go_enter Tryz.func49, Tryz.ntmps49
  go_wp2_with (go_at_call 51; refine (nameMayBe_any _ _ hk).mono ?_; rintro e w' ⟨rfl, rfl⟩)
  go_ret2
  exact ⟨rfl, rfl⟩

set_option maxHeartbeats 400000 in
theorem find_some (k : ByteArray) (w : World) (h : DiskG Tryz.prog w d m G s) (hk : k.size ≤ maxLen) (ho : Dk.okS k = true) {g : Gc} (hg : Dk.getL k.data.toList G = some g) :
    Calls Tryz.prog 49 #[.pointer (some ⟨d, 0, none⟩), .string k] w fun e w' => e = .returned (.tuple #[.pointer (some ⟨g.blk, 0, none⟩), .int .i64 0]) ∧ w' = w := by
  obtain ⟨c0, -, -, -⟩ := h.cells
  have hr := h.look_some hk hg
  clear h hg
  go_enter Tryz.func49, Tryz.ntmps49
  go_wp2_with (go_at_call 51; refine (nameMayBe_any _ _ hk).mono ?_; rintro e w' ⟨rfl, rfl⟩)
  go_ret2
  exact ⟨rfl, rfl⟩

end
end Go.Proofs.YtigegdelhpdlhaaGreatDoor

/- The library contracts that the proofs of this seat lean on (the keys of a map in their order; a copy of bytes), laid at its program. -/
namespace Go.Proofs
open Go.RowKit Go.Maps Go.Sort Go.Shelf
def Tryz.keys72_ren : Go.Shelf.Ren := ⟨fun | 7 => 72 | 10 => 98 | n => n, fun | 23 => 65 | 26 => 9 | 3 => 81 | 28 => 122 | 0 => 0 | 27 => 121 | 33 => 91 | 4 => 4 | n => n, fun | n => n⟩
theorem Tryz.keys72 : Go.Proofs.SlLaysZ.n7 Tryz.prog Tryz.keys72_ren := {
  mixed := by kernel_rfl
  f7 := ⟨Tryz.f72.name, by decide, Tryz.func72.trans (congrArg some (by kernel_rfl))⟩
  f10 := ⟨Tryz.f98.name, by decide, Tryz.func98.trans (congrArg some (by kernel_rfl))⟩
  t0 := Tryz.underlying0
  a0 := Tryz.isAgg0
  z0 := Tryz.sizeOf0
  v0 := Tryz.zeroValue0
  t4 := Tryz.underlying4
  a4 := Tryz.isAgg4
  z4 := Tryz.sizeOf4
  v4 := Tryz.zeroValue4
  t23 := Tryz.underlying65
  a23 := Tryz.isAgg65
  z23 := Tryz.sizeOf65
  v23 := Tryz.zeroValue65
  t26 := Tryz.underlying9
  a26 := Tryz.isAgg9
  z26 := Tryz.sizeOf9
  v26 := Tryz.zeroValue9
  t27 := Tryz.underlying121
  a27 := Tryz.isAgg121
  z27 := Tryz.sizeOf121
  v27 := Tryz.zeroValue121
  t28 := Tryz.underlying122
  a28 := Tryz.isAgg122
  z28 := Tryz.sizeOf122
  v28 := Tryz.zeroValue122
  t33 := Tryz.underlying91
  a33 := Tryz.isAgg91
  z33 := Tryz.sizeOf91
  v33 := Tryz.zeroValue91 }
def Tryz.sorted71_ren : Go.Shelf.Ren := ⟨fun | 6 => 71 | 8 => 96 | 9 => 97 | 11 => 117 | 13 => 119 | 12 => 118 | 23 => 143 | 24 => 144 | 14 => 134 | 15 => 135 | 16 => 136 | 17 => 137 | 18 => 138 | 19 => 139 | 20 => 140 | 21 => 141 | 22 => 142 | 25 => 163 | 26 => 164 | 27 => 165 | 28 => 166 | 29 => 167 | 30 => 168 | 31 => 184 | n => n, fun | 26 => 9 | 28 => 122 | 24 => 79 | 0 => 0 | 3 => 3 | 37 => 172 | 48 => 165 | 50 => 39 | 4 => 4 | 40 => 195 | 39 => 194 | 45 => 104 | 5 => 5 | 9 => 9 | 51 => 216 | 55 => 219 | 57 => 228 | 58 => 229 | 33 => 91 | n => n, fun | n => n⟩
theorem Tryz.sorted71 : Go.Proofs.SlLaysZ.n6 Tryz.prog Tryz.sorted71_ren := {
  mixed := by kernel_rfl
  f6 := ⟨Tryz.f71.name, by decide, Tryz.func71.trans (congrArg some (by kernel_rfl))⟩
  f8 := ⟨Tryz.f96.name, by decide, Tryz.func96.trans (congrArg some (by kernel_rfl))⟩
  f11 := ⟨Tryz.f117.name, by decide, Tryz.func117.trans (congrArg some (by kernel_rfl))⟩
  t0 := Tryz.underlying0
  a0 := Tryz.isAgg0
  z0 := Tryz.sizeOf0
  v0 := Tryz.zeroValue0
  t24 := Tryz.underlying79
  a24 := Tryz.isAgg79
  z24 := Tryz.sizeOf79
  v24 := Tryz.zeroValue79
  t26 := Tryz.underlying9
  a26 := Tryz.isAgg9
  z26 := Tryz.sizeOf9
  v26 := Tryz.zeroValue9
  t28 := Tryz.underlying122
  a28 := Tryz.isAgg122
  z28 := Tryz.sizeOf122
  v28 := Tryz.zeroValue122
  i26 := by kernel_rfl }
def Tryz.sort97_ren : Go.Shelf.Ren := ⟨fun | 6 => 97 | 8 => 119 | 9 => 118 | 19 => 143 | 20 => 144 | 21 => 134 | 22 => 135 | 23 => 136 | 24 => 137 | 25 => 138 | 26 => 139 | 27 => 140 | 28 => 141 | 29 => 142 | 36 => 163 | 31 => 164 | 32 => 165 | 37 => 166 | 38 => 167 | 39 => 168 | 41 => 184 | n => n, fun | 27 => 79 | 29 => 9 | 3 => 3 | 32 => 172 | 26 => 79 | 0 => 0 | 44 => 165 | 46 => 39 | 4 => 4 | 36 => 195 | 35 => 194 | 41 => 104 | 5 => 5 | 9 => 9 | 53 => 216 | 57 => 219 | 63 => 228 | 64 => 229 | n => n, fun | n => n⟩
theorem Tryz.sort97 : Go.Proofs.SlLaysM.n6 Tryz.prog Tryz.sort97_ren := {
  mixed := by kernel_rfl
  f6 := ⟨Tryz.f97.name, by decide, Tryz.func97.trans (congrArg some (by kernel_rfl))⟩
  f8 := Tryz.func119.trans (congrArg some (by kernel_rfl))
  f9 := ⟨Tryz.f118.name, by decide, Tryz.func118.trans (congrArg some (by kernel_rfl))⟩
  f19 := Tryz.func143.trans (congrArg some (by kernel_rfl))
  f20 := Tryz.func144.trans (congrArg some (by kernel_rfl))
  f21 := ⟨Tryz.f134.name, by decide, Tryz.func134.trans (congrArg some (by kernel_rfl))⟩
  f22 := ⟨Tryz.f135.name, by decide, Tryz.func135.trans (congrArg some (by kernel_rfl))⟩
  f23 := ⟨Tryz.f136.name, by decide, Tryz.func136.trans (congrArg some (by kernel_rfl))⟩
  f24 := ⟨Tryz.f137.name, by decide, Tryz.func137.trans (congrArg some (by kernel_rfl))⟩
  f25 := ⟨Tryz.f138.name, by decide, Tryz.func138.trans (congrArg some (by kernel_rfl))⟩
  f26 := ⟨Tryz.f139.name, by decide, Tryz.func139.trans (congrArg some (by kernel_rfl))⟩
  f27 := ⟨Tryz.f140.name, by decide, Tryz.func140.trans (congrArg some (by kernel_rfl))⟩
  f28 := ⟨Tryz.f141.name, by decide, Tryz.func141.trans (congrArg some (by kernel_rfl))⟩
  f29 := ⟨Tryz.f142.name, by decide, Tryz.func142.trans (congrArg some (by kernel_rfl))⟩
  f31 := Tryz.func164.trans (congrArg some (by kernel_rfl))
  f32 := Tryz.func165.trans (congrArg some (by kernel_rfl))
  f36 := ⟨Tryz.f163.name, by decide, Tryz.func163.trans (congrArg some (by kernel_rfl))⟩
  f37 := ⟨Tryz.f166.name, by decide, Tryz.func166.trans (congrArg some (by kernel_rfl))⟩
  f38 := ⟨Tryz.f167.name, by decide, Tryz.func167.trans (congrArg some (by kernel_rfl))⟩
  f39 := ⟨Tryz.f168.name, by decide, Tryz.func168.trans (congrArg some (by kernel_rfl))⟩
  f41 := ⟨Tryz.f184.name, by decide, Tryz.func184.trans (congrArg some (by kernel_rfl))⟩
  t0 := Tryz.underlying0
  a0 := Tryz.isAgg0
  z0 := Tryz.sizeOf0
  v0 := Tryz.zeroValue0
  t3 := Tryz.underlying3
  a3 := Tryz.isAgg3
  z3 := Tryz.sizeOf3
  v3 := Tryz.zeroValue3
  t4 := Tryz.underlying4
  a4 := Tryz.isAgg4
  z4 := Tryz.sizeOf4
  v4 := Tryz.zeroValue4
  t5 := Tryz.underlying5
  a5 := Tryz.isAgg5
  z5 := Tryz.sizeOf5
  v5 := Tryz.zeroValue5
  t9 := Tryz.underlying9
  a9 := Tryz.isAgg9
  z9 := Tryz.sizeOf9
  v9 := Tryz.zeroValue9
  t26 := Tryz.underlying79
  a26 := Tryz.isAgg79
  z26 := Tryz.sizeOf79
  v26 := Tryz.zeroValue79
  t27 := Tryz.underlying79
  a27 := Tryz.isAgg79
  z27 := Tryz.sizeOf79
  v27 := Tryz.zeroValue79
  t29 := Tryz.underlying9
  a29 := Tryz.isAgg9
  z29 := Tryz.sizeOf9
  v29 := Tryz.zeroValue9
  t32 := Tryz.underlying172
  a32 := Tryz.isAgg172
  z32 := Tryz.sizeOf172
  v32 := Tryz.zeroValue172
  t35 := Tryz.underlying194
  a35 := Tryz.isAgg194
  z35 := Tryz.sizeOf194
  v35 := Tryz.zeroValue194
  t36 := Tryz.underlying195
  a36 := Tryz.isAgg195
  z36 := Tryz.sizeOf195
  v36 := Tryz.zeroValue195
  t41 := Tryz.underlying104
  a41 := Tryz.isAgg104
  z41 := Tryz.sizeOf104
  v41 := Tryz.zeroValue104
  t44 := Tryz.underlying165
  a44 := Tryz.isAgg165
  z44 := Tryz.sizeOf165
  v44 := Tryz.zeroValue165
  t46 := Tryz.underlying39
  a46 := Tryz.isAgg39
  z46 := Tryz.sizeOf39
  v46 := Tryz.zeroValue39
  t53 := Tryz.underlying216
  a53 := Tryz.isAgg216
  z53 := Tryz.sizeOf216
  v53 := Tryz.zeroValue216
  t57 := Tryz.underlying219
  a57 := Tryz.isAgg219
  z57 := Tryz.sizeOf219
  v57 := Tryz.zeroValue219
  t63 := Tryz.underlying228
  a63 := Tryz.isAgg228
  z63 := Tryz.sizeOf228
  v63 := Tryz.zeroValue228
  t64 := Tryz.underlying229
  a64 := Tryz.isAgg229
  z64 := Tryz.sizeOf229
  v64 := Tryz.zeroValue229 }
def Tryz.clone73_ren : Go.Shelf.Ren := ⟨fun | 4 => 73 | n => n, fun | 22 => 54 | 4 => 4 | 5 => 5 | n => n, fun | n => n⟩
theorem Tryz.clone73 : Go.Proofs.SlLaysK.n4 Tryz.prog Tryz.clone73_ren := {
  mixed := by kernel_rfl
  f4 := Tryz.func73.trans (congrArg some (by kernel_rfl))
  t4 := Tryz.underlying4
  a4 := Tryz.isAgg4
  z4 := Tryz.sizeOf4
  v4 := Tryz.zeroValue4
  t22 := Tryz.underlying54
  a22 := Tryz.isAgg54
  z22 := Tryz.sizeOf54
  v22 := Tryz.zeroValue54
  t5 := Tryz.underlying5
  i5 := by kernel_rfl }


theorem Tryz.sorts71 (m : Nat) : AnyZ.SortsIn Tryz.prog Tryz.sorted71_ren Fence.wide m :=
  ⟨fun blk off cap ss W hH hblk hsz => callsIn_wide.2 (AnyM.slices_Sort_string Tryz.sort97 blk off cap ss W hH hblk hsz),
   fun p cap W => callsIn_wide.2 (AnyM.slices_Sort_string_none Tryz.sort97 p cap W)⟩

theorem Tryz.maps_Keys_72 (mb : Option Nat) (W : World) : CallsIn Fence.wide 5 Tryz.prog 72 #[.map mb] W fun e w' => e = .returned (.func (.func 98) #[] #[.pointer (some ⟨W.heap.size, 0, none⟩)]) ∧ w' = W.alloc (.cells #[.map mb] 65) :=
  AnyZ.keys_in Tryz.keys72 Fence.wide 5 trivial rfl mb W

set_option maxHeartbeats 1000000 in
theorem Tryz.slices_Sorted_keys_71_72 {H : Type} (b nn : Nat) (D0 : DataW H) (R : Value → Option (DataW H × List MemPlace)) (w : World) (hown : w.ownsMap Tryz.prog 9 R b nn D0) (hmax : Maps.size D0 ≤ maxLen) (hbytes : Maps.size D0 * 16 ≤ 140737488355328) :
    CallsIn Fence.wide 5 Tryz.prog 71 #[.func (.func 98) #[] #[.pointer (some ⟨w.heap.size, 0, none⟩)]] (w.alloc (.cells #[.map (some b)] 65)) fun e w' => ∃ (v : Value) (ss : List (List UInt8)), e = .returned v ∧ ss.Perm (strKeys D0) ∧
      w'.ownsRow (w.alloc (.cells #[.map (some b)] 65)).heap.size 9 1 v ss.length ((ss.mergeSort (fun x y => decide (x ≤ y))).map encStr) ∧ (v = .slice none 0 0 ↔ ss = []) ∧ Below (w.alloc (.cells #[.map (some b)] 65)).heap.size (w.alloc (.cells #[.map (some b)] 65)) w' := by
  have hbl := hown.lt
  have hseq : SeqGives Fence.wide 2 Tryz.prog 98 #[.pointer (some ⟨w.heap.size, 0, none⟩)] encStr (fun ss => ss.Perm (strKeys D0)) (Maps.size D0) (w.alloc (.cells #[.map (some b)] 65)) :=
    AnyZ.keys_gives (ρ := Tryz.keys72_ren) { Tryz.keys72 with } Fence.wide _ trivial rfl (by omega) w.heap.size b nn D0 _ (by simp) (by simp) (by
      obtain ⟨es, clock, hb, Ft, hs, hD⟩ := hown
      exact ⟨es, clock, (Below.heap_alloc _ _ b hbl).trans hb, Ft, hs, hD⟩)
  exact AnyZ.sorted_in Tryz.sorted71 Fence.wide 5 trivial trivial trivial trivial rfl (by omega) (Tryz.sorts71 _) (enters_of Tryz.func97 (by kernel_rfl) rfl) 98 #[.pointer (some ⟨w.heap.size, 0, none⟩)] trivial (enters_of Tryz.func98 (by kernel_rfl) rfl) _ _ hmax hbytes _ hseq

set_option maxHeartbeats 1000000 in
theorem Tryz.slices_Sorted_keys_nil_71_72 (w : World) :
    CallsIn Fence.wide 5 Tryz.prog 71 #[.func (.func 98) #[] #[.pointer (some ⟨w.heap.size, 0, none⟩)]] (w.alloc (.cells #[.map none] 65)) fun e w' => ∃ (v : Value) (ss : List (List UInt8)), e = .returned v ∧ ss = [] ∧
      w'.ownsRow (w.alloc (.cells #[.map none] 65)).heap.size 9 1 v ss.length ((ss.mergeSort (fun x y => decide (x ≤ y))).map encStr) ∧ (v = .slice none 0 0 ↔ ss = []) ∧ Below (w.alloc (.cells #[.map none] 65)).heap.size (w.alloc (.cells #[.map none] 65)) w' := by
  have hseq : SeqGives Fence.wide 2 Tryz.prog 98 #[.pointer (some ⟨w.heap.size, 0, none⟩)] encStr (fun ss : List (List UInt8) => ss = []) 0 (w.alloc (.cells #[.map none] 65)) :=
    AnyZ.keys_gives_nil (ρ := Tryz.keys72_ren) { Tryz.keys72 with } Fence.wide _ trivial rfl w.heap.size _ (by simp) (by simp)
  exact AnyZ.sorted_in Tryz.sorted71 Fence.wide 5 trivial trivial trivial trivial rfl (by omega) (Tryz.sorts71 _) (enters_of Tryz.func97 (by kernel_rfl) rfl) 98 #[.pointer (some ⟨w.heap.size, 0, none⟩)] trivial (enters_of Tryz.func98 (by kernel_rfl) rfl) _ 0 (Nat.zero_le _) (by omega) _ hseq



end Go.Proofs
