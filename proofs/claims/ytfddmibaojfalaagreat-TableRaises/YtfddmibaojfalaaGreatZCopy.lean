/- Copies of a schema's parts: numbers; slices that are made. -/
import Derived.Test.YtfddmibaojfalaaGreatZNamesJ
import Derived.Test.YtfddmibaojfalaaGreatZMid
import Derived.Test.YtfddmibaojfalaaGreatFClone
import Derived.Deep.RegionHeld3
import Derived.Lib.SliceRun
namespace Go.Proofs.YtfddmibaojfalaaGreat
open Go.RowKit

theorem infoInt_parts : ∃ i, Tryz.prog.info? 3 = some i ∧ i.zero = some (.int .i64 0) ∧ i.size = 1 ∧ i.bytes = 8 := info_parts (by kernel_rfl)

set_option maxRecDepth 100000 in
set_option maxHeartbeats 1000000 in
theorem cloneI_any (v : Value) (L : List Int) (w w0 : World) (hb : Below w0.heap.size w0 w) (h : SliceAt w0 v 1 enI L) (hne : L ≠ []) (hl : L.length ≤ 100000) :
    Calls Tryz.prog 34 #[v] w fun e w' => ∃ g c, e = .returned (.slice (some ⟨g, 0, none⟩) L.length c) ∧ Hid (w'.ownsRow w.heap.size 3 1 (.slice (some ⟨g, 0, none⟩) L.length c) L.length (flat enI L)) ∧ Hid (Below w.heap.size w w') := by
  have h1 := h.below hb
  obtain ⟨a, c, rfl, hlc, hcm, hx⟩ := h1
  obtain ⟨b, off, rfl, hbl, hcs⟩ := hx hne
  have HS : Hid (∀ o : Obj, SliceAt (w.alloc o) (.slice (some ⟨b, off, none⟩) L.length c) 1 enI L) := fun o => SliceAt.below ⟨_, c, rfl, hlc, hcm, fun _ => ⟨b, off, rfl, hbl, hcs⟩⟩ ((Below.refl _ w).alloc (Nat.le_refl _) o)
  obtain ⟨i, hi, hz, hsize, hby⟩ := infoInt_parts
  have HI : Hid (Tryz.prog.info? 3 = some i ∧ i.zero = some (.int .i64 0) ∧ i.size = 1 ∧ i.bytes = 8) := ⟨hi, hz, hsize, hby⟩
  have hnil := fun (u : World) (a : Option Addr) (n c : Nat) => Lib.run_eql_slice_nil (P := Tryz.prog) u 73 3 a n c 0 0 Tryz.underlying73
  have HL : Hid (L.length ≤ 100000) := hl
  have HNE : Hid (L ≠ []) := hne
  obtain ⟨n, hn⟩ : ∃ n, L.length = n := ⟨_, rfl⟩
  have HN : Hid (L.length = n) := hn
  rw [hn] at HS hlc ⊢
  unfold maxLen at hcm
  clear h hx hcs hi hz hsize hby hl hn hne hb
  go_enter Tryz.func34, Tryz.ntmps34
  go_wp2_with (at_builtin; go_must (refine append_copy rfl _ _ 73 rfl w.heap.size 3 i (.int .i64 0) 1 8 Tryz.underlying73 HI.out.1 HI.out.2.1 HI.out.2.2.1 HI.out.2.2.2 rfl (by omega) w.heap.size rfl (row_empty w 3 1) enI (fun _ => rfl) (fun y u hu => ?_) (.slice (some ⟨b, off, none⟩) n c) L rfl (HS.out _) (fun k c' e => ?_) (by have := HL.out; omega) (by simp) ?_))
  · rw [List.mem_singleton.1 hu]; rfl
  · intro v' w' h1 h2
    obtain ⟨g, c', hv⟩ : ∃ g c', v' = .slice (some ⟨g, 0, none⟩) n c' := by
      rcases h1.2 with ⟨_, h0⟩ | ⟨g, cap, cur, rfl, _⟩
      · exact absurd (List.length_eq_zero_iff.1 h0) HNE.out
      · exact ⟨g, cap, by rw [HN.out]⟩
    subst hv
    rw [HN.out] at h1
    have H1 : Hid (w'.ownsRow w.heap.size 3 1 (.slice (some ⟨g, 0, none⟩) n c') n (flat enI L)) := h1
    have H2 : Hid (Below w.heap.size w w') := ((Below.refl _ w).alloc (Nat.le_refl _) _).grown h2 (by simp) (fun i hi => by cases hi; exact Nat.le_refl _)
    clear h1 h2
    go_wp2
    go_ret
    exact ⟨g, c', rfl, H1, H2⟩

/-! ### slices that are made -/
theorem made_flat {α : Type} {en : α → List Value} {m : Nat} (hm : ∀ g, (en g).length = m) (hpos : 0 < m) (x : α) (zs : Array Value) (hz : zs.toList = en x) (n : Nat) : madeCells zs (n * m) = (flat en (List.replicate n x)).toArray := by
  have hl : zs.size = m := by rw [← Array.length_toList, hz, hm]
  apply Array.ext'
  apply List.ext_getElem?
  intro i
  by_cases hi : i < n * m
  · have hq : i / m < n := by rw [Nat.div_lt_iff_lt_mul hpos]; exact hi
    have hr : i % m < m := Nat.mod_lt _ hpos
    have := flat_get hm (List.replicate n x) (i / m) (by simpa using hq) (i % m) hr
    rw [Nat.div_add_mod, List.getElem_replicate] at this
    show _ = (flat en (List.replicate n x))[i]?
    rw [this, ← hz]
    simp [madeCells, hi, hl, hr]
  · have h1 : (flat en (List.replicate n x)).length = m * n := by rw [flat_length hm, List.length_replicate]
    show _ = (flat en (List.replicate n x))[i]?
    rw [List.getElem?_eq_none (by simp [madeCells]; omega), List.getElem?_eq_none (by rw [h1, Nat.mul_comm]; omega)]

theorem make_rows {α : Type} {en : α → List Value} {m : Nat} (hm : ∀ g, (en g).length = m) (hpos : 0 < m) (x : α) (T E : TypeId) (bytes : Nat) (zv : Value) (hz : zv.cells.toList = en x) (hT : Tryz.prog.underlying T = some (.slice E)) (hi : ∃ i, Tryz.prog.info? E = some i ∧ i.zero = some zv ∧ i.size = m ∧ i.bytes = bytes) (n : Nat) (hn : n ≤ 100000) (hby : bytes ≤ 1000) (w : World) :
    (Instr.makeSlice T (.int .i64 (n : Int)) (.int .i64 (n : Int))).run Tryz.prog w = .ok (.slice (some ⟨w.heap.size, 0, none⟩) n n) (w.alloc (.cells (flat en (List.replicate n x)).toArray E)) := by
  obtain ⟨inf, hq, h1, h2, h3⟩ := hi
  have h4 : ((inf.bytes * n : Nat) : Int) ≤ 281474976710656 := by
    have : inf.bytes * n ≤ 1000 * 100000 := Nat.mul_le_mul (by omega) hn
    omega
  rw [Int.natCast_mul] at h4
  have := run_make (P := Tryz.prog) w T E inf zv hT hq h1 .i64 .i64 (n : Int) (n : Int) (by omega) (Int.le_refl _) h4 (by omega)
  rw [h2, Int.toNat_natCast, made_flat hm hpos x zv.cells hz n] at this
  exact this

def noCol : ByteArray × Int := (⟨#[]⟩, 0)
def noIv : Iv := ⟨⟨⟨#[]⟩, [], false⟩, .slice none 0 0⟩
theorem make_cols (n : Nat) (hn : n ≤ 100000) (w : World) : (Instr.makeSlice 26 (.int .i64 (n : Int)) (.int .i64 (n : Int))).run Tryz.prog w = .ok (.slice (some ⟨w.heap.size, 0, none⟩) n n) (w.alloc (.cells (flat enC (List.replicate n noCol)).toArray 25)) :=
  make_rows (en := enC) (m := 2) (fun _ => rfl) (by decide) noCol 26 25 24 (.agg #[.string ⟨#[]⟩, .int .i64 0]) rfl Tryz.underlying26 (info_parts (by kernel_rfl)) n hn (by decide) w
theorem make_ixs (n : Nat) (hn : n ≤ 100000) (w : World) : (Instr.makeSlice 27 (.int .i64 (n : Int)) (.int .i64 (n : Int))).run Tryz.prog w = .ok (.slice (some ⟨w.heap.size, 0, none⟩) n n) (w.alloc (.cells (flat enX (List.replicate n noIv)).toArray 81)) :=
  make_rows (en := enX) (m := 3) (fun _ => rfl) (by decide) noIv 27 81 48 (.agg #[.string ⟨#[]⟩, .slice none 0 0, .bool false]) rfl Tryz.underlying27 (info_parts (by kernel_rfl)) n hn (by decide) w

/-- the first j, and z behind them -/
def partG {α : Type} (z : α) (K : List α) (j : Nat) : List α := K.take j ++ List.replicate (K.length - j) z
section
variable {α : Type} {z : α} {K : List α} {j : Nat}
theorem partG_zero : partG z K 0 = List.replicate K.length z := by simp [partG]
theorem partG_all : partG z K K.length = K := by simp [partG]
theorem partG_length (h : j ≤ K.length) : (partG z K j).length = K.length := by simp [partG]; omega
theorem partG_at (h : j < K.length) : (partG z K j)[j]? = some z := by
  unfold partG
  rw [List.getElem?_append_right (by simp; omega), List.length_take, Nat.min_eq_left (Nat.le_of_lt h), Nat.sub_self]
  rw [List.getElem?_replicate, if_pos (by omega)]
theorem partG_next (h : j < K.length) : (partG z K j).set j K[j] = partG z K (j + 1) := by
  unfold partG
  rw [List.set_append_right _ _ (by simp; omega), List.length_take, Nat.min_eq_left (Nat.le_of_lt h), Nat.sub_self, show K.length - j = (K.length - (j + 1)) + 1 by omega, List.replicate_succ, List.set_cons_zero, List.take_add_one, List.getElem?_eq_getElem h, List.append_assoc]
  rfl
end

end Go.Proofs.YtfddmibaojfalaaGreat
