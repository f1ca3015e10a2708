/- TidNext's walk: the program's Next and the document's tell the same of any words, which stay as they are. -/
import Derived.Test.YtcifiliigldapaaIRefN
namespace Go.Proofs.Ytcifiliigldapaa
open Go.RowKit

set_option maxRecDepth 100000 in
set_option maxHeartbeats 400000 in
theorem sameWords_true (v v' : Value) (L : List Int) (w : World) (h : WordsAt w v L) (h' : WordsAt w v' L) :
    Calls Try.prog 18 #[v, v'] w fun e w' => e = .returned (.bool true) ∧ Below w.heap.size w w' := by
  obtain ⟨a, c, rfl, hl, hc, hx⟩ := h
  obtain ⟨a', c', rfl, hl', hc', hx'⟩ := h'
  have HX : Hid (L ≠ [] → ∃ b off, a = some ⟨b, off, none⟩ ∧ b < w.heap.size ∧ ∀ i, (h : i < L.length) → ∀ (j : Nat) (u : Value), ([Value.int .u64 L[i]])[j]? = some u → w.cell? ⟨b, off + i * 1 + j, none⟩ = some u) := hx
  have HX' : Hid (L ≠ [] → ∃ b off, a' = some ⟨b, off, none⟩ ∧ b < w.heap.size ∧ ∀ i, (h : i < L.length) → ∀ (j : Nat) (u : Value), ([Value.int .u64 L[i]])[j]? = some u → w.cell? ⟨b, off + i * 1 + j, none⟩ = some u) := hx'
  unfold maxLen at hc hc'
  clear hx hx'
  go_enter Try.func18, Try.ntmps18
  go_wp2_with fail
  go_loopw [5] (fun i wr => ∃ j : Nat, j ≤ L.length ∧ i = .int .i64 j ∧ Below w.heap.size w wr) (fun i _ => L.length - (intOf i).toNat)
  case atStart => exact ⟨0, Nat.zero_le _, rfl, Below.refl _ _⟩
  case round =>
    obtain ⟨j, hj, rfl, hb⟩ := hrel
    have HB : Hid (Below w.heap.size w wr) := hb
    clear hb
    by_cases hlt : j < L.length
    · have hlI : (j : Int) < (L.length : Int) := by omega
      have hne : L ≠ [] := by intro e; rw [e] at hlt; simp at hlt
      obtain ⟨b, off, rfl, hbl, hcs⟩ := HX.out hne
      obtain ⟨b', off', rfl, hbl', hcs'⟩ := HX'.out hne
      obtain ⟨x, hxe⟩ : ∃ x, L[j] = x := ⟨_, rfl⟩
      have q := hcs j hlt 0 _ rfl
      have q' := hcs' j hlt 0 _ rfl
      rw [hxe, Nat.mul_one, Nat.add_zero] at q q'
      have p : wr.cell? ⟨b, off + j, none⟩ = some (.int .u64 x) := (HB.out.cell hbl).trans q
      have p' : wr.cell? ⟨b', off' + j, none⟩ = some (.int .u64 x) := (HB.out.cell hbl').trans q'
      clear hcs hcs' q q' hxe hne
      go_wp2_with fail
      go_quiet (fail)
      have HB2 : Hid (Below w.heap.size w (wr.drewN nq)) := HB.out.trans ((below_drewN wr nq).mono HB.out.size)
      go_wp2_with fail
      go_roundw
      case rel => exact ⟨j + 1, by omega, by go_num, HB2.out⟩
      case measure => simp [intOf]; omega
    · have hgI : ¬ (j : Int) < (L.length : Int) := by omega
      go_wp2_with fail
      go_ret
      exact ⟨rfl, HB.out⟩


theorem infoU : (Try.prog.info? 24).map (fun i => (i.zero, i.size, i.bytes)) = some (some (.int .u64 0), 1, 8) := by kernel_rfl

namespace NextL

set_option maxRecDepth 100000 in
set_option maxHeartbeats 1000000 in
theorem walk (ep : Int) (v : Value) (L : List Int) (w : World) (hv : WordsAt w v L) (hL : Words L) (hN : NilOk v) (hB : L.length * 8 ≤ reachBytes) :
    Calls Try.prog 4 #[.int .i64 ep, v] w fun e w' => e = .returned (.bool true) ∧ Below w.heap.size w w' := by
  obtain ⟨iu, ui, uz0, uz1, uz2⟩ := info_parts infoU
  have hB' : L.length * 8 ≤ 140737488351232 := hB
  have HN : Hid (NilOk v) := hN
  have HL : Hid (Words L) := hL
  have HV : Hid (WordsAt w v L) := hv
  have HS : Hid (WordsAt (w.alloc (.cells #[] 24)) v L) := hv.below ((Below.refl _ _).alloc (Nat.le_refl _) _)
  have HC : Hid (∀ u x, WordsAt u x L → Calls Try.prog 16 #[.int .i64 ep, x] u fun e w' => e = .returned (.tuple #[.int .u64 (nextW ep L), .int .i64 (nextE ep L)]) ∧ w' = u) := fun u x hu => next_any ep x L u hu hL
  have HD : Hid (∀ u x, WordsAt u x L → Calls Try.prog 17 #[.int .i64 ep, x] u fun e w' => e = .returned (.tuple #[.int .u64 (nextW ep L), .int .i64 (nextE ep L)]) ∧ w' = u) := fun u x hu => rnext_any ep x L u hu hL
  obtain ⟨N, hNe⟩ : ∃ N, nextW ep L = N := ⟨_, rfl⟩
  obtain ⟨E, hEe⟩ : ∃ E, nextE ep L = E := ⟨_, rfl⟩
  rw [hNe, hEe] at HC HD
  obtain ⟨a, c, rfl, hl, hc, -⟩ := hv
  clear hL hN hB hNe hEe
  go_enter Try.func4, Try.ntmps4
  go_wp2_with (at_builtin; go_must (refine append_copy rfl _ _ 35 rfl w.heap.size 24 iu (.int .u64 0) 1 8 Try.underlying35 ui uz0 uz1 uz2 rfl (by decide) w.heap.size rfl (row_empty w _ _) (fun x : Int => [Value.int .u64 x]) ?q1 ?q2 _ L rfl HS.out HN.out ?q3 ?q4 ?_))
  case q1 => exact fun _ => rfl
  case q2 =>
    intro y u hu
    rw [List.mem_singleton.1 hu]
    rfl
  case q3 => omega
  case q4 => simp
  intro v5 w5 hown5 hgrow5
  have HO : Hid (WordsAt w5 v5 L) := own_slice (en := fun x : Int => [Value.int .u64 x]) (n := 1) (fun _ => rfl) hown5
  have HB : Hid (Below w.heap.size w w5) := Below.grown ((Below.refl _ _).alloc (Nat.le_refl _) _) hgrow5 (by simp) (fun i hi => by cases hi; exact Nat.le_refl _)
  obtain ⟨a5, c5, rfl, -, -, -⟩ := id HO.out
  clear hown5 hgrow5
  go_wp2_with fail
  refine (HC.out _ _ HO.out).mono ?_
  rintro y w6 ⟨rfl, rfl⟩
  go_wp2_with fail
  refine (HD.out _ _ (HV.out.below HB.out)).mono ?_
  rintro y w7 ⟨rfl, rfl⟩
  have hNN : (N == N) = true := by simp
  have hEE : (E == E) = true := by simp
  go_wp2_with fail
  refine (sameWords_true _ _ L _ HO.out (HV.out.below HB.out)).mono ?_
  rintro y w8 ⟨rfl, hb8⟩
  have HB8 : Hid (Below w.heap.size w w8) := HB.out.trans (hb8.mono HB.out.size)
  clear hb8
  go_wp2_with fail
  refine (works_any _).mono ?_
  rintro y w9 ⟨rfl, hb9⟩
  go_wp2_with fail
  go_ret
  exact ⟨rfl, HB8.out.trans (hb9.mono HB8.out.size)⟩

end NextL
end Go.Proofs.Ytcifiliigldapaa
