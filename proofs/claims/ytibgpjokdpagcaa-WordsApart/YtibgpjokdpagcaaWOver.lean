/- over: a task, all of whose accesses are to one cell. -/
import Derived.Test.YtibgpjokdpagcaaWApartP
import Derived.Test.YtibgpjokdpagcaaWSame
namespace Go.Proofs.Ytibgpjokdpagcaa
open Go.RowKit

namespace Apart
theorem infoN : (Try.prog.info? 53).map (fun i => (i.zero, i.size, i.bytes)) = some (some (.agg #[.int .i64 0, .int .i64 0, .int .i64 0, .int .i64 0]), 4, 32) := by kernel_rfl

/-- the first j are turned -/
def mix (z : Int) (L : List InsV) (j : Nat) : List InsV := (L.take j).map (ov z) ++ L.drop j
theorem mix_length (z : Int) (L : List InsV) (j : Nat) : (mix z L j).length = L.length := by simp [mix]; omega
theorem mix_zero (z : Int) (L : List InsV) : mix z L 0 = L := by simp [mix]
theorem mix_all (z : Int) (L : List InsV) : mix z L L.length = over z L := by simp [mix, over]
theorem mix_at (z : Int) (L : List InsV) {j : Nat} (h : j < L.length) : (mix z L j)[j]'(by rw [mix_length]; exact h) = L[j] := by
  simp only [mix]
  rw [List.getElem_append_right (by simp; omega)]
  simp [Nat.min_eq_left (Nat.le_of_lt h)]
theorem mix_set (z : Int) (L : List InsV) {j : Nat} (h : j < L.length) : (mix z L j).set j (ov z L[j]) = mix z L (j + 1) := by
  unfold mix
  rw [List.take_succ_eq_append_getElem h, List.map_append, List.set_append_right _ _ (by simp; omega)]
  have e2 : j - (List.map (ov z) (List.take j L)).length = 0 := by simp; omega
  rw [e2, List.drop_eq_getElem_cons h, List.set_cons_zero]
  simp
theorem mix_stay (z : Int) (L : List InsV) {j : Nat} (h : j < L.length) (e : ov z L[j] = L[j]) : mix z L j = mix z L (j + 1) := by
  rw [← mix_set z L h, e]
  conv => rhs; rw [show L[j] = (mix z L j)[j]'(by rw [mix_length]; exact h) from (mix_at z L h).symm]
  rw [List.set_getElem_self]

set_option maxRecDepth 100000 in
set_option maxHeartbeats 400000 in
theorem over_any (v : Value) (L : List InsV) (z : Int) (w : World) (hL : SliceAt w v 4 InsV.en L) (hN : NilOk v) (hl : L.length ≤ 4096) :
    Calls Try.prog 20 #[v, .int .i64 z] w fun e w' => ∃ a c, e = .returned (.slice a L.length c) ∧ SliceAt w' (.slice a L.length c) 4 InsV.en (over z L) ∧ Below w.heap.size w w' := by
  obtain ⟨i1, ki, kz0, kz1, kz2⟩ := info_parts infoN
  have HL : Hid (SliceAt (w.alloc (.cells #[] 53)) v 4 InsV.en L) := hL.below ((Below.refl _ _).alloc (Nat.le_refl _) _)
  have HN : Hid (NilOk v) := hN
  obtain ⟨a0, c0, rfl, -, -, -⟩ := hL
  clear hN
  go_enter Try.func20, Try.ntmps20
  go_wp2_with (at_builtin; go_must (refine append_copy rfl _ _ 43 rfl w.heap.size 53 i1 (.agg #[.int .i64 0, .int .i64 0, .int .i64 0, .int .i64 0]) 4 32 Try.underlying43 ki kz0 kz1 kz2 rfl (by decide) w.heap.size rfl (row_empty w _ _) InsV.en ?q1 ?q2 _ L rfl HL.out HN.out ?q3 ?q4 ?_))
  case q1 => exact fun _ => rfl
  case q2 =>
    intro y u hu
    simp only [InsV.en, List.mem_cons, List.not_mem_nil, or_false] at hu
    rcases hu with rfl | rfl | rfl | rfl <;> rfl
  case q3 => omega
  case q4 => simp
  intro v5 w5 hown5 hgrow5
  have HB5 : Hid (Below w.heap.size w w5) := ((Below.refl _ w).alloc (Nat.le_refl _) _).grown hgrow5 (by simp) (fun i hi => by cases hi; exact Nat.le_refl _)
  obtain ⟨a, c, rfl, hlc, hcm, -⟩ := own_slice (en := InsV.en) (n := 4) (fun _ => rfl) hown5
  unfold maxLen at hcm
  have HO : Hid (w5.ownsRow w.heap.size 53 4 (.slice a L.length c) L.length (flat InsV.en (mix z L 0))) := by rw [mix_zero]; exact hown5
  clear hown5 hgrow5
  go_wp2_with fail
  go_loopw [12] (fun i wr => ∃ j : Nat, j ≤ L.length ∧ i = .int .i64 j ∧ wr.ownsRow w.heap.size 53 4 (.slice a L.length c) L.length (flat InsV.en (mix z L j)) ∧ Below w.heap.size w wr) (fun i _ => L.length - (intOf i).toNat)
  case atStart => exact ⟨0, Nat.zero_le _, rfl, HO.out, HB5.out⟩
  case round =>
    obtain ⟨j, hj, rfl, ho, hb⟩ := hrel
    have HOj : Hid (wr.ownsRow w.heap.size 53 4 (.slice a L.length c) L.length (flat InsV.en (mix z L j))) := ho
    have HB : Hid (Below w.heap.size w wr) := hb
    clear ho hb HO
    by_cases hlt : j < L.length
    · have hlI : (j : Int) < (L.length : Int) := by omega
      obtain ⟨x, hxe⟩ : ∃ x, L[j] = x := ⟨_, rfl⟩
      have hex : ∃ g cur, a = some ⟨g, 0, none⟩ ∧ w.heap.size ≤ g ∧ wr.heap[g]? = some (.cells cur 53 (0, 0)) ∧ L.length ≤ c ∧ c ≤ maxLen ∧ cur.size = c * 4 ∧ cur.toList.take (L.length * 4) = flat InsV.en (mix z L j) := by
        rcases HOj.out.2 with ⟨e, e0⟩ | ⟨g, cap, cur, e, h1, h2, h3, h4, h5, h6⟩
        · omega
        · cases e
          exact ⟨g, cur, rfl, h1, h2, h3, h4, h5, h6⟩
      obtain ⟨g, cur, rfl, hg, hcu, hn1, hn2, hn3, htk⟩ := hex
      have q : ∀ f, f < 4 → wr.cell? ⟨g, j * 4 + f, none⟩ = (InsV.en x)[f]? := by
        intro f hf
        have h1 := flat_get (en := InsV.en) (m := 4) (fun _ => rfl) (mix z L j) j (by rw [mix_length]; exact hlt) f hf
        rw [mix_at z L hlt, hxe, ← htk, List.getElem?_take_of_lt (by omega)] at h1
        rw [cell_of hcu, ← Array.getElem?_toList, Nat.mul_comm j 4]
        exact h1
      have q0 : wr.cell? ⟨g, j * 4, none⟩ = some (.int .i64 x.kind) := q 0 (by omega)
      have q3 : wr.cell? ⟨g, j * 4 + 3, none⟩ = some (.int .i64 x.n) := q 3 (by omega)
      have f3 : wr.frozen? ⟨g, j * 4 + 3, none⟩ = false := frozen_of hcu _
      by_cases hk : 4 ≤ x.kind ∧ x.kind ≤ 6
      · obtain ⟨hk1, hk2⟩ := hk
        have HOn : Hid ((wr.setCell ⟨g, j * 4 + 3, none⟩ (.int .i64 z)).ownsRow w.heap.size 53 4 (.slice (some ⟨g, 0, none⟩) L.length c) L.length (flat InsV.en (mix z L (j + 1)))) := by
          obtain ⟨cur', e1, e2, e3⟩ := flat_row_set (en := InsV.en) (m := 4) (fun _ => rfl) (i := j) (f := 3) (o := j * 4 + 3) (d := ov z x) (u := .int .i64 z) hcu hn3 htk (by rw [mix_length]; exact hlt) (by omega) (by omega) (by
            rw [mix_at z L hlt, hxe]
            unfold ov
            rw [if_pos ⟨hk1, hk2⟩]
            rfl)
          rw [← hxe, mix_set z L hlt] at e3
          exact ⟨by rw [flat_length (m := 4) (fun _ => rfl), mix_length, Nat.mul_comm], Or.inr ⟨g, c, cur', rfl, hg, e1, hn1, hn2, e2, e3⟩⟩
        have HBn : Hid (Below w.heap.size w (wr.setCell ⟨g, j * 4 + 3, none⟩ (.int .i64 z))) := HB.out.trans ((Turn.setCell (S := fun i => w.heap.size ≤ i) wr ⟨g, j * 4 + 3, none⟩ _ hg).toBelow HB.out.size)
        clear q htk hcu hxe hn2 hn3
        go_wp2_with fail
        go_roundw
        case rel => exact ⟨j + 1, by omega, by go_num, HOn.out, HBn.out⟩
        case measure => simp [intOf]; omega
      · have HOn : Hid (wr.ownsRow w.heap.size 53 4 (.slice (some ⟨g, 0, none⟩) L.length c) L.length (flat InsV.en (mix z L (j + 1)))) := by
          have e : ov z L[j] = L[j] := by rw [hxe]; unfold ov; rw [if_neg hk]
          have := HOj.out
          rw [mix_stay z L hlt e] at this
          exact this
        clear q htk hcu hxe hn2 hn3
        by_cases hk1 : 4 ≤ x.kind
        · have hk2 : ¬ x.kind ≤ 6 := fun h => hk ⟨hk1, h⟩
          clear hk
          go_wp2_with fail
          go_roundw
          case rel => exact ⟨j + 1, by omega, by go_num, HOn.out, HB.out⟩
          case measure => simp [intOf]; omega
        · clear hk
          go_wp2_with fail
          go_roundw
          case rel => exact ⟨j + 1, by omega, by go_num, HOn.out, HB.out⟩
          case measure => simp [intOf]; omega
    · have hgI : ¬ (j : Int) < (L.length : Int) := by omega
      have ej : j = L.length := by omega
      go_wp2_with fail
      go_ret
      refine ⟨a, c, rfl, ?_, HB.out⟩
      have := HOj.out
      rw [ej, mix_all] at this
      have h2 := own_slice (en := InsV.en) (n := 4) (L := over z L) (fun _ => rfl) (by rw [over_length]; exact this)
      exact h2
end Apart

end Go.Proofs.Ytibgpjokdpagcaa
