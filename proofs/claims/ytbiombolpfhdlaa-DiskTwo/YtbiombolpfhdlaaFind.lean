/- Looking a file up: find. -/
import Derived.Test.YtbiombolpfhdlaaSmall
namespace Go.Proofs.Ytbiombolpfhdlaa
open Go.RowKit Go.Maps

theorem keyed : Keyed Try.prog 9 := string_keyed Try.underlying9
theorem zeroP (w : World) : (zeroValue 63).run Try.prog w = .ok (.pointer none) w := by kernel_rfl

section
variable {w : World} {d m : Nat} {G : List (List UInt8 × Gc)} {s : Dk.Dsk}

theorem DiskG.look_some (h : DiskG Try.prog w d m G s) {k : ByteArray} (hk : k.size ≤ maxLen) {g : Gc} (hg : Dk.getL k.data.toList G = some g) :
    (Instr.lookup 51 (.map (some m)) (.string k) true).run Try.prog w = .ok (.tuple #[.pointer (some ⟨g.blk, 0, none⟩), .bool true]) w := by
  obtain ⟨v, ps, hrun, hv⟩ := h.map.look_ok keyed Try.underlying51 (zeroP w) (zd := .nil) (zp := []) rfl (WideMaps.keyOf_string_mk Try.underlying9 hk)
  rw [Dk.toD_at, hg] at hv
  rw [Dk.toD_has, hg] at hrun
  rw [hrun, ptrR_inv hv]
  rfl

theorem DiskG.look_none (h : DiskG Try.prog w d m G s) {k : ByteArray} (hk : k.size ≤ maxLen) (hg : Dk.getL k.data.toList G = none) :
    (Instr.lookup 51 (.map (some m)) (.string k) true).run Try.prog w = .ok (.tuple #[.pointer none, .bool false]) w := by
  obtain ⟨v, ps, hrun, hv⟩ := h.map.look_ok keyed Try.underlying51 (zeroP w) (zd := .nil) (zp := []) rfl (WideMaps.keyOf_string_mk Try.underlying9 hk)
  rw [Dk.toD_at, hg] at hv
  rw [Dk.toD_has, hg] at hrun
  rw [hrun, ptrR_nil hv]
  rfl

/-- without 'ok' -/
theorem DiskG.look (h : DiskG Try.prog w d m G s) {k : ByteArray} (hk : k.size ≤ maxLen) {g : Gc} (hg : Dk.getL k.data.toList G = some g) :
    (Instr.lookup 51 (.map (some m)) (.string k) false).run Try.prog w = .ok (.pointer (some ⟨g.blk, 0, none⟩)) w := by
  obtain ⟨v, ps, hrun, hv⟩ := h.map.lookup keyed Try.underlying51 (zeroP w) (zd := .nil) (zp := []) rfl (WideMaps.keyOf_string_mk Try.underlying9 hk)
  rw [Dk.toD_at, hg] at hv
  rw [hrun, ptrR_inv hv]

theorem DiskG.getL_fs (h : DiskG Try.prog w d m G s) (k : List UInt8) : Dk.getL k s.fs = (Dk.getL k G).map Gc.fil := by rw [h.fs, Dk.getL_mapL]
theorem DiskG.len_fs (h : DiskG Try.prog w d m G s) : s.fs.length = G.length := by rw [h.fs, Dk.length_mapL]
end

section
variable {d m : Nat} {G : List (List UInt8 × Gc)} {s : Dk.Dsk}

set_option maxHeartbeats 400000 in
theorem find_bad (k : ByteArray) (w : World) (hk : k.size ≤ maxLen) (ho : Dk.okS k = false) :
    Calls Try.prog 38 #[.pointer (some ⟨d, 0, none⟩), .string k] w fun e w' => e = .returned (.tuple #[.pointer none, .int .i64 10]) ∧ w' = w := by
  go_enter Try.func38, Try.ntmps38
  go_wp2_with (go_at_call 36; refine (nameMayBe_any _ _ hk).mono ?_; rintro e w' ⟨rfl, rfl⟩)
  go_ret2
  exact ⟨rfl, rfl⟩

set_option maxHeartbeats 400000 in
theorem find_none (k : ByteArray) (w : World) (h : DiskG Try.prog w d m G s) (hk : k.size ≤ maxLen) (ho : Dk.okS k = true) (hg : Dk.getL k.data.toList G = none) :
    Calls Try.prog 38 #[.pointer (some ⟨d, 0, none⟩), .string k] w fun e w' => e = .returned (.tuple #[.pointer none, .int .i64 5]) ∧ w' = w := by
  obtain ⟨c0, -, -, -⟩ := h.cells
  have hr := h.look_none hk hg
  clear h hg
  go_enter Try.func38, Try.ntmps38
  go_wp2_with (go_at_call 36; refine (nameMayBe_any _ _ hk).mono ?_; rintro e w' ⟨rfl, rfl⟩)
  go_ret2
  exact ⟨rfl, rfl⟩

set_option maxHeartbeats 400000 in
theorem find_some (k : ByteArray) (w : World) (h : DiskG Try.prog w d m G s) (hk : k.size ≤ maxLen) (ho : Dk.okS k = true) {g : Gc} (hg : Dk.getL k.data.toList G = some g) :
    Calls Try.prog 38 #[.pointer (some ⟨d, 0, none⟩), .string k] w fun e w' => e = .returned (.tuple #[.pointer (some ⟨g.blk, 0, none⟩), .int .i64 0]) ∧ w' = w := by
  obtain ⟨c0, -, -, -⟩ := h.cells
  have hr := h.look_some hk hg
  clear h hg
  go_enter Try.func38, Try.ntmps38
  go_wp2_with (go_at_call 36; refine (nameMayBe_any _ _ hk).mono ?_; rintro e w' ⟨rfl, rfl⟩)
  go_ret2
  exact ⟨rfl, rfl⟩

end
end Go.Proofs.Ytbiombolpfhdlaa
