import Derived.Test.YtnboanlhdllhnaaGreatZWkJ
import Derived.Test.YtnboanlhdllhnaaGreatZCopyT
/- hopperref08's Reader: numbers, counts, texts, flags. -/
namespace Go.Proofs.YtnboanlhdllhnaaGreat
open Go.RowKit

/-- a place in the bytes, and whether something was wrong -/
abbrev Us := Nat × Bool
/-- the document's reader in block b -/
def UrI (b : Nat) (B : List UInt8) (s : Us) (w : World) : Prop := w.heap[b]? = some (.cells #[.string (bytesOf B), .int .i64 (s.1 : Int), .bool s.2] 91 (0, 0))

section
variable (B : List UInt8)
def uN (s : Us) : Int × Us := if s.2 = true ∨ B.length < s.1 + 8 then (0, (s.1, true)) else (rd8 ((B.drop s.1).take 8), (s.1 + 8, false))
def uM (s : Us) : Nat × Us := if (uN B s).1 < 0 ∨ 4096 < (uN B s).1 then (0, ((uN B s).2.1, true)) else ((uN B s).1.toNat, (uN B s).2)
def uT (s : Us) : ByteArray × Us :=
  if (uN B s).2.2 = true ∨ (uN B s).1 < 0 ∨ ((B.length : Int) - ((uN B s).2.1 : Int)) < (uN B s).1 then (⟨#[]⟩, ((uN B s).2.1, true))
  else (bytesOf ((B.drop (uN B s).2.1).take (uN B s).1.toNat), ((uN B s).2.1 + (uN B s).1.toNat, false))
def uF (s : Us) : Bool × Us :=
  if s.2 = true then (false, (s.1, true)) else
  match B[s.1]? with
  | none => (false, (s.1, true))
  | some x => if 1 < x.toNat then (false, (s.1, true)) else (decide (x.toNat = 1), (s.1 + 1, false))
/-- it never goes behind the end -/
abbrev Stays {α : Type} (f : Us → α × Us) : Prop := ∀ s : Us, s.1 ≤ B.length → (f s).2.1 ≤ B.length
theorem stays_num : Stays B (uN B) := fun s h => by
  unfold uN
  split
  · exact h
  · rename_i hc
    show s.1 + 8 ≤ _
    rw [not_or] at hc
    omega
theorem uN_i64 (s : Us) : I64 (uN B s).1 := by
  unfold uN
  split
  · exact ⟨by show (-9223372036854775808 : Int) ≤ 0; decide, by show (0 : Int) ≤ 9223372036854775807; decide⟩
  · rename_i hc
    rw [not_or] at hc
    exact rd8_i64 (by rw [List.length_take, List.length_drop]; omega)
theorem stays_many : Stays B (uM B) := fun s h => by
  unfold uM
  split
  · exact stays_num B s h
  · exact stays_num B s h
theorem stays_text : Stays B (uT B) := fun s h => by
  unfold uT
  split
  · exact stays_num B s h
  · rename_i hc
    rw [not_or, not_or] at hc
    show (uN B s).2.1 + (uN B s).1.toNat ≤ _
    have := stays_num B s h
    omega
theorem stays_flag : Stays B (uF B) := fun s h => by
  unfold uF
  split
  · exact h
  · split
    · exact h
    · rename_i x hx
      have := (List.getElem?_eq_some_iff.1 hx).1
      split
      · exact h
      · show s.1 + 1 ≤ _
        omega
end

theorem valN_drop {l : List UInt8} {i : Nat} {c : UInt8} (h : l[i]? = some c) : valN (l.drop i) = valN (l.drop (i + 1)) * 256 + c.toNat := by
  obtain ⟨hi, rfl⟩ := List.getElem?_eq_some_iff.1 h
  rw [List.drop_eq_getElem_cons hi, valN]
  omega

section
variable {b : Nat} {B : List UInt8} {s : Us} {w : World}
set_option maxRecDepth 100000 in
set_option maxHeartbeats 2000000 in
theorem unumber_any (h : UrI b B s w) (hB : B.length ≤ 1000000) (hs : s.1 ≤ B.length) :
    Calls Tryz.prog 60 #[.pointer (some ⟨b, 0, none⟩)] w fun e w' => e = .returned (.int .i64 (uN B s).1) ∧ UrI b B (uN B s).2 w' ∧ At1 b w w' := by
  obtain ⟨at0, bad⟩ := s
  have q0 : w.cell? ⟨b, 0, none⟩ = some (.string (bytesOf B)) := by rw [cell_of h]; rfl
  have q1 : w.cell? ⟨b, 1, none⟩ = some (.int .i64 (at0 : Int)) := by rw [cell_of h]; rfl
  have q2 : w.cell? ⟨b, 2, none⟩ = some (.bool bad) := by rw [cell_of h]; rfl
  have f1 := frozen_of h 1
  have f2 := frozen_of h 2
  have HB : Hid (w.heap[b]? = some (.cells #[.string (bytesOf B), .int .i64 (at0 : Int), .bool bad] 91 (0, 0))) := h
  have hsz : (bytesOf B).size = B.length := bytesOf_size B
  dsimp only at hs
  unfold uN
  dsimp only
  cases bad with
  | true =>
    rw [if_pos (Or.inl rfl)]
    obtain ⟨t, ht⟩ : ∃ t, bytesOf B = t := ⟨_, rfl⟩
    rw [ht] at q0
    have HT : Hid (bytesOf B = t) := ht
    clear h ht hsz
    go_enter Tryz.func60, Tryz.ntmps60
    go_wp2_with fail
    go_quiet (fail)
    go_wp2_with fail
    go_ret
    refine ⟨rfl, ?_, ((Turn.refl _ w).drewN _).trans (Turn.setCell _ ⟨b, 2, none⟩ _ rfl)⟩
    show _ = some (Obj.cells #[.string (bytesOf B), .int .i64 (at0 : Int), .bool true] _ _)
    have hbt := HB.out
    rw [HT.out] at hbt ⊢
    exact heap_setCell_same (show (w.drewN nq).heap[b]? = _ from hbt) 2 _
  | false =>
    by_cases hl : B.length < at0 + 8
    · rw [if_pos (Or.inr hl)]
      obtain ⟨t, ht⟩ : ∃ t, bytesOf B = t := ⟨_, rfl⟩
      obtain ⟨n, hn⟩ : ∃ n, B.length = n := ⟨_, rfl⟩
      rw [ht, hn] at hsz
      rw [ht] at q0
      rw [hn] at hl hs hB
      have HT : Hid (bytesOf B = t) := ht
      have k1 : (n : Int) - (at0 : Int) < 8 := by omega
      clear h ht hn
      go_enter Tryz.func60, Tryz.ntmps60
      go_wp2_with fail
      go_quiet (fail)
      go_wp2_with fail
      go_ret
      refine ⟨rfl, ?_, ((Turn.refl _ w).drewN _).trans (Turn.setCell _ ⟨b, 2, none⟩ _ rfl)⟩
      show _ = some (Obj.cells #[.string (bytesOf B), .int .i64 (at0 : Int), .bool true] _ _)
      have hbt := HB.out
      rw [HT.out] at hbt ⊢
      exact heap_setCell_same (show (w.drewN nq).heap[b]? = _ from hbt) 2 _
    · rw [if_neg (by rw [not_or]; exact ⟨by decide, hl⟩)]
      obtain ⟨l, hll⟩ : ∃ l, (B.drop at0).take 8 = l := ⟨_, rfl⟩
      have hl8 : l.length = 8 := by rw [← hll, List.length_take, List.length_drop]; omega
      have HL : Hid (l.length = 8) := hl8
      have HE : Hid (IntKind.i64.wrap (valN l : Int) = rd8 l) := by
        show _ = _
        unfold rd8
        rw [sOf_wrap]
        have := valN_lt l
        rw [hl8] at this
        omega
      have HLt : Hid (∀ k, valN (l.drop k) < 256 ^ (8 - k)) := fun k => by
        have := valN_lt (l.drop k)
        rw [List.length_drop, hl8] at this
        exact this
      obtain ⟨t, ht⟩ : ∃ t, bytesOf B = t := ⟨_, rfl⟩
      have HAt : Hid (∀ (k p : Nat), k < 8 → at0 + k = p → ∃ (hp : p < t.size), l[k]? = some t[p]) := fun k p hk hp => by
        have hpB : p < B.length := by omega
        refine ⟨by rw [← ht, bytesOf_size]; exact hpB, ?_⟩
        rw [← hll, List.getElem?_take_of_lt hk, List.getElem?_drop, hp, List.getElem?_eq_getElem hpB]
        congr 1
        subst ht
        rfl
      obtain ⟨n, hn⟩ : ∃ n, B.length = n := ⟨_, rfl⟩
      rw [hll]
      rw [ht, hn] at hsz
      rw [ht] at q0
      rw [hn] at hl hs hB
      have HT : Hid (bytesOf B = t) := ht
      have k1 : ¬ (n : Int) - (at0 : Int) < 8 := by omega
      clear h ht hn hll hl8
      go_enter Tryz.func60, Tryz.ntmps60
      go_wp2_with fail
      go_quiet (fail)
      go_wp2_with fail
      go_loopw [3, 4] (fun u i wr => ∃ (k m : Nat) (y : Int) (q : Nat), k ≤ 8 ∧ i = .int .i64 y ∧ Hid (y = (k : Int) - 1) ∧ -1 ≤ y ∧ y ≤ 7 ∧ u = .int .u64 (m : Int) ∧ Hid (m = valN (l.drop k)) ∧ Hid (wr = w.drewN q)) (fun _ i _ => (intOf i + 1).toNat)
      case atStart =>
        refine ⟨8, 0, 7, _, Nat.le_refl _, rfl, (rfl : _ = _), by omega, by omega, rfl, ?_, (rfl : _ = _)⟩
        show _ = _
        rw [List.drop_eq_nil_of_le (by rw [HL.out]; exact Nat.le_refl _)]
        rfl
      case round =>
        obtain ⟨k, m, y, q, hk, rfl, HY, hy1, hy2, rfl, Hm, HW⟩ := hrel
        have c0 : wr.cell? ⟨b, 0, none⟩ = some (.string t) := by rw [HW.out]; exact q0
        have c1 : wr.cell? ⟨b, 1, none⟩ = some (.int .i64 (at0 : Int)) := by rw [HW.out]; exact q1
        have g1 : wr.frozen? ⟨b, 1, none⟩ = false := by rw [HW.out]; exact f1
        rcases k with _ | k
        · obtain rfl : y = -1 := by have := HY.out; omega
          have k5 : IntKind.i64.wrap ((at0 : Int) + 8) = (at0 : Int) + 8 := wrap_small _ (by omega) (by omega)
          go_wp2_with fail
          go_ret
          refine ⟨?_, ?_, ?_⟩
          · rw [← HE.out, IntWalk.i64_left, Hm.out, List.drop_zero]
            rfl
          · show _ = some (Obj.cells #[.string (bytesOf B), .int .i64 ((at0 + 8 : Nat) : Int), .bool false] _ _)
            have hbt := HB.out
            rw [HT.out] at hbt ⊢
            rw [HW.out]
            exact heap_setCell_same (show (w.drewN q).heap[b]? = _ from hbt) 1 _
          · rw [HW.out]
            exact ((Turn.refl _ w).drewN _).trans (Turn.setCell _ ⟨b, 1, none⟩ _ rfl)
        · obtain rfl : y = (k : Int) := by have := HY.out; omega
          obtain ⟨p, hp⟩ : ∃ p, at0 + k = p := ⟨_, rfl⟩
          obtain ⟨hpt, hlk⟩ := HAt.out k p (by omega) hp
          have HV : Hid (valN (l.drop k) = valN (l.drop (k + 1)) * 256 + (t[p]).toNat) := valN_drop hlk
          obtain ⟨c, hc⟩ : ∃ c, (t[p]).toNat = c := ⟨_, rfl⟩
          rw [hc] at HV
          have hc2 : c < 256 := by rw [← hc]; exact (t[p]).toNat_lt
          have hidx : ∀ W, (Instr.index 9 (.string t) (.int .i64 ((at0 : Int) + (k : Int)))).run Tryz.prog W = .ok (.int .u8 (c : Int)) W := fun W => by
            rw [run_index_string W _ t _ _ Tryz.underlying9, dif_pos ⟨by omega, by omega⟩]
            have e : ((at0 : Int) + (k : Int)).toNat = p := by omega
            simp only [e, hc]
          have hm : m < 72057594037927936 := by
            have := HLt.out (k + 1)
            rw [← Hm.out] at this
            have h2 : 256 ^ (8 - (k + 1)) ≤ 256 ^ 7 := Nat.pow_le_pow_right (by decide) (by omega)
            omega
          have hyk : (0 : Int) ≤ (k : Int) := by omega
          clear hlk hp hpt hc
          go_wp2_with fail
          go_quiet (fail)
          go_wp2_with fail
          go_roundw
          case rel =>
            refine ⟨k, m * 256 + c, (k : Int) - 1, q + nq, by omega, by go_num, (rfl : _ = _), by omega, by omega, ?_, ?_, (by rw [HW.out, World.drewN_drewN] : _ = _)⟩
            · simp
            · show _ = _
              rw [HV.out, ← Hm.out]
          case measure => simp [intOf]

theorem UrI.cells (h : UrI b B s w) : w.cell? ⟨b, 0, none⟩ = some (.string (bytesOf B)) ∧ w.cell? ⟨b, 1, none⟩ = some (.int .i64 (s.1 : Int)) ∧ w.cell? ⟨b, 2, none⟩ = some (.bool s.2) ∧ w.frozen? ⟨b, 1, none⟩ = false ∧ w.frozen? ⟨b, 2, none⟩ = false :=
  ⟨by rw [cell_of h]; rfl, by rw [cell_of h]; rfl, by rw [cell_of h]; rfl, frozen_of h 1, frozen_of h 2⟩
theorem UrI.wrong (h : UrI b B s w) (n : Nat) : UrI b B (s.1, true) ((w.drewN n).setCell ⟨b, 2, none⟩ (.bool true)) ∧ At1 b w ((w.drewN n).setCell ⟨b, 2, none⟩ (.bool true)) :=
  ⟨heap_setCell_same (show (w.drewN n).heap[b]? = _ from h) 2 _, ((Turn.refl _ w).drewN _).trans (Turn.setCell _ ⟨b, 2, none⟩ _ rfl)⟩
theorem UrI.wrong0 (h : UrI b B s w) : UrI b B (s.1, true) (w.setCell ⟨b, 2, none⟩ (.bool true)) ∧ At1 b w (w.setCell ⟨b, 2, none⟩ (.bool true)) :=
  ⟨heap_setCell_same h 2 _, Turn.setCell _ ⟨b, 2, none⟩ _ rfl⟩
theorem UrI.on (h : UrI b B s w) (n k : Nat) (z : Int) (hz : z = ((s.1 + k : Nat) : Int)) : UrI b B (s.1 + k, s.2) ((w.drewN n).setCell ⟨b, 1, none⟩ (.int .i64 z)) ∧ At1 b w ((w.drewN n).setCell ⟨b, 1, none⟩ (.int .i64 z)) := by
  subst hz
  exact ⟨heap_setCell_same (show (w.drewN n).heap[b]? = _ from h) 1 _, ((Turn.refl _ w).drewN _).trans (Turn.setCell _ ⟨b, 1, none⟩ _ rfl)⟩

set_option maxHeartbeats 400000 in
theorem umany_any (h : UrI b B s w) (hB : B.length ≤ 1000000) (hs : s.1 ≤ B.length) :
    Calls Tryz.prog 59 #[.pointer (some ⟨b, 0, none⟩)] w fun e w' => e = .returned (.int .i64 ((uM B s).1 : Int)) ∧ UrI b B (uM B s).2 w' ∧ At1 b w w' := by
  have H1 : Hid (Calls Tryz.prog 60 #[.pointer (some ⟨b, 0, none⟩)] w fun e w' => e = .returned (.int .i64 (uN B s).1) ∧ Hid (UrI b B (uN B s).2 w' ∧ At1 b w w')) := unumber_any h hB hs
  have HC : Hid (∀ u, UrI b B (uN B s).2 u ∧ At1 b w u → u.cell? ⟨b, 2, none⟩ = some (.bool (uN B s).2.2) ∧ u.frozen? ⟨b, 2, none⟩ = false) := fun u hu => ⟨hu.1.cells.2.2.1, hu.1.cells.2.2.2.2⟩
  obtain ⟨n, hn⟩ : ∃ n, (uN B s).1 = n := ⟨_, rfl⟩
  unfold uM
  rw [hn] at H1 ⊢
  clear h
  by_cases hc : n < 0 ∨ 4096 < n
  · rw [if_pos hc]
    by_cases h0 : n < 0
    · go_enter Tryz.func59, Tryz.ntmps59
      go_wp2_with (go_at_call 60; go_must (refine H1.out.mono ?_; rintro e w1 ⟨rfl, K1⟩; obtain ⟨c2, f2⟩ := HC.out _ K1.out))
      go_ret
      exact ⟨rfl, K1.out.1.wrong0.1, K1.out.2.trans K1.out.1.wrong0.2⟩
    · have h1 : (4096 : Int) < n := by omega
      go_enter Tryz.func59, Tryz.ntmps59
      go_wp2_with (go_at_call 60; go_must (refine H1.out.mono ?_; rintro e w1 ⟨rfl, K1⟩; obtain ⟨c2, f2⟩ := HC.out _ K1.out))
      go_ret
      exact ⟨rfl, K1.out.1.wrong0.1, K1.out.2.trans K1.out.1.wrong0.2⟩
  · rw [if_neg hc]
    have h0 : ¬ n < 0 := by omega
    have h1 : ¬ (4096 : Int) < n := by omega
    have HE : Hid (((n.toNat : Nat) : Int) = n) := by show _ = _; omega
    go_enter Tryz.func59, Tryz.ntmps59
    go_wp2_with (go_at_call 60; go_must (refine H1.out.mono ?_; rintro e w1 ⟨rfl, K1⟩; obtain ⟨c2, f2⟩ := HC.out _ K1.out))
    go_ret
    exact ⟨by rw [HE.out]; rfl, K1.out⟩

set_option maxRecDepth 100000 in
set_option maxHeartbeats 1000000 in
theorem utext_any (h : UrI b B s w) (hB : B.length ≤ 1000000) (hs : s.1 ≤ B.length) :
    Calls Tryz.prog 58 #[.pointer (some ⟨b, 0, none⟩)] w fun e w' => e = .returned (.string (uT B s).1) ∧ UrI b B (uT B s).2 w' ∧ At1 b w w' := by
  have H1 : Hid (Calls Tryz.prog 60 #[.pointer (some ⟨b, 0, none⟩)] w fun e w' => e = .returned (.int .i64 (uN B s).1) ∧ Hid (UrI b B (uN B s).2 w' ∧ At1 b w w')) := unumber_any h hB hs
  have hst := stays_num B s hs
  have hni := uN_i64 B s
  unfold uT
  obtain ⟨n, hn⟩ : ∃ n, (uN B s).1 = n := ⟨_, rfl⟩
  obtain ⟨⟨a1, z⟩, hz⟩ : ∃ z, (uN B s).2 = z := ⟨_, rfl⟩
  rw [hn, hz] at H1 ⊢
  rw [hz] at hst
  rw [hn] at hni
  obtain ⟨ni1, ni2⟩ := hni
  dsimp only at hst ⊢
  have hsz : (bytesOf B).size = B.length := bytesOf_size B
  have HX : Hid (∀ i j : Nat, (bytesOf B).extract i j = bytesOf ((B.drop i).take (j - i))) := ext_list B
  obtain ⟨t, ht⟩ : ∃ t, bytesOf B = t := ⟨_, rfl⟩
  obtain ⟨N, hN⟩ : ∃ N, B.length = N := ⟨_, rfl⟩
  rw [ht] at HX
  have HC : Hid (∀ u, UrI b B (a1, z) u ∧ At1 b w u → u.cell? ⟨b, 0, none⟩ = some (.string t) ∧ u.cell? ⟨b, 1, none⟩ = some (.int .i64 (a1 : Int)) ∧ u.cell? ⟨b, 2, none⟩ = some (.bool z) ∧ u.frozen? ⟨b, 1, none⟩ = false ∧ u.frozen? ⟨b, 2, none⟩ = false) := fun u hu => by rw [← ht]; exact hu.1.cells
  rw [ht, hN] at hsz
  rw [hN] at hst hB ⊢
  clear h hs hn hz ht hN
  cases z with
  | true =>
    rw [if_pos (Or.inl rfl)]
    go_enter Tryz.func58, Tryz.ntmps58
    go_wp2_with (go_at_call 60; go_must (refine H1.out.mono ?_; rintro e w1 ⟨rfl, K1⟩; obtain ⟨c0, c1, c2, f1, f2⟩ := HC.out _ K1.out))
    go_quiet (fail)
    go_wp2_with fail
    go_ret
    exact ⟨rfl, (K1.out.1.wrong nq).1, K1.out.2.trans (K1.out.1.wrong nq).2⟩
  | false =>
    by_cases h0 : n < 0
    · rw [if_pos (Or.inr (Or.inl h0))]
      go_enter Tryz.func58, Tryz.ntmps58
      go_wp2_with (go_at_call 60; go_must (refine H1.out.mono ?_; rintro e w1 ⟨rfl, K1⟩; obtain ⟨c0, c1, c2, f1, f2⟩ := HC.out _ K1.out))
      go_quiet (fail)
      go_wp2_with fail
      go_ret
      exact ⟨rfl, (K1.out.1.wrong nq).1, K1.out.2.trans (K1.out.1.wrong nq).2⟩
    · by_cases h1 : (N : Int) - (a1 : Int) < n
      · rw [if_pos (Or.inr (Or.inr h1))]
        have hd0 : decide (n < 0) = false := decide_eq_false h0
        have hd1 : decide ((N : Int) - (a1 : Int) < n) = true := decide_eq_true h1
        go_enter Tryz.func58, Tryz.ntmps58
        go_wp2_with (go_at_call 60; go_must (refine H1.out.mono ?_; rintro e w1 ⟨rfl, K1⟩; obtain ⟨c0, c1, c2, f1, f2⟩ := HC.out _ K1.out))
        go_quiet (fail)
        go_wp2_with fail
        go_ret
        exact ⟨rfl, (K1.out.1.wrong nq).1, K1.out.2.trans (K1.out.1.wrong nq).2⟩
      · rw [if_neg (by rintro (h | h | h); cases h; exact h0 h; exact h1 h)]
        obtain ⟨k, rfl⟩ := Int.eq_ofNat_of_zero_le (Int.not_lt.1 h0)
        have e1 : (a1 : Int) + (k : Int) ≤ (N : Int) := by omega
        have e2 : ((a1 : Int) + (k : Int)).toNat = a1 + k := by omega
        have e3 : a1 ≤ a1 + k := by omega
        have hd0 : decide ((k : Int) < 0) = false := decide_eq_false h0
        have hd1 : decide ((N : Int) - (a1 : Int) < (k : Int)) = false := decide_eq_false h1
        go_enter Tryz.func58, Tryz.ntmps58
        go_wp2_with (go_at_call 60; go_must (refine H1.out.mono ?_; rintro e w1 ⟨rfl, K1⟩; obtain ⟨c0, c1, c2, f1, f2⟩ := HC.out _ K1.out))
        go_quiet (fail)
        go_wp2_with fail
        go_quiet (fail)
        go_wp2_with fail
        go_ret
        have hon := fun n => K1.out.1.on n k ((a1 : Int) + (k : Int)) (by simp)
        refine ⟨?_, (hon _).1, K1.out.2.trans (hon _).2⟩
        show Ending.returned (.string (t.extract a1 (a1 + k))) = Ending.returned (.string (bytesOf ((B.drop a1).take k)))
        rw [HX.out, Nat.add_sub_cancel_left]

set_option maxRecDepth 100000 in
set_option maxHeartbeats 1000000 in
theorem uflag_any (h : UrI b B s w) (hB : B.length ≤ 1000000) (hs : s.1 ≤ B.length) :
    Calls Tryz.prog 61 #[.pointer (some ⟨b, 0, none⟩)] w fun e w' => e = .returned (.bool (uF B s).1) ∧ UrI b B (uF B s).2 w' ∧ At1 b w w' := by
  obtain ⟨a1, z⟩ := s
  obtain ⟨q0, q1, q2, f1, f2⟩ := h.cells
  have HU : Hid (UrI b B (a1, z) w) := h
  have hsz : (bytesOf B).size = B.length := bytesOf_size B
  unfold uF
  dsimp only at hs q1 q2 ⊢
  have HAt : Hid (∀ (hp : a1 < (bytesOf B).size), B[a1]? = some (bytesOf B)[a1]) := fun hp => by
    rw [List.getElem?_eq_getElem (by rw [← hsz]; exact hp)]
    rfl
  obtain ⟨t, ht⟩ : ∃ t, bytesOf B = t := ⟨_, rfl⟩
  obtain ⟨N, hN⟩ : ∃ N, B.length = N := ⟨_, rfl⟩
  rw [ht, hN] at hsz
  rw [hN] at hs hB
  rw [ht] at q0
  cases z with
  | true =>
    rw [if_pos rfl]
    clear h ht hN
    go_enter Tryz.func61, Tryz.ntmps61
    go_wp2_with fail
    go_quiet (fail)
    go_wp2_with fail
    go_ret
    exact ⟨rfl, (HU.out.wrong nq).1, (HU.out.wrong nq).2⟩
  | false =>
    rw [if_neg (by decide)]
    by_cases hl : a1 < N
    · have hp : a1 < t.size := by omega
      have hBa : B[a1]? = some (t[a1]'hp) := by subst ht; exact HAt.out hp
      rw [hBa]
      dsimp only
      obtain ⟨c, hc⟩ : ∃ c, (t[a1]'hp).toNat = c := ⟨_, rfl⟩
      have hc2 : c < 256 := by rw [← hc]; exact (t[a1]'hp).toNat_lt
      rw [hc]
      have hidx : ∀ W, (Instr.index 9 (.string t) (.int .i64 (a1 : Int))).run Tryz.prog W = .ok (.int .u8 (c : Int)) W := fun W => by
        rw [run_index_string W _ t _ _ Tryz.underlying9, dif_pos ⟨by omega, by omega⟩]
        have e : ((a1 : Int)).toNat = a1 := rfl
        simp only [e, hc]
      have hd1 : decide ((N : Int) ≤ (a1 : Int)) = false := decide_eq_false (by omega)
      by_cases hbig : 1 < c
      · rw [if_pos hbig]
        have hd2 : decide ((1 : Int) < (c : Int)) = true := decide_eq_true (by omega)
        clear h ht hN hBa hc hp
        go_enter Tryz.func61, Tryz.ntmps61
        go_wp2_with fail
        go_quiet (fail)
        go_wp2_with fail
        go_ret
        exact ⟨rfl, (HU.out.wrong nq).1, (HU.out.wrong nq).2⟩
      · rw [if_neg hbig]
        have hd2 : decide ((1 : Int) < (c : Int)) = false := decide_eq_false (by omega)
        have k1 : (a1 : Int) + 1 - 1 = (a1 : Int) := by omega
        have HD : Hid (decide (c = 1) = ((c : Int) == 1)) := by
          show _ = _
          rw [Bool.eq_iff_iff]
          simp
          omega
        have hon := fun n => HU.out.on n 1 ((a1 : Int) + 1) (by simp)
        have HOn : Hid (∀ n, UrI b B (a1 + 1, false) ((w.drewN n).setCell ⟨b, 1, none⟩ (.int .i64 ((a1 : Int) + 1))) ∧ At1 b w ((w.drewN n).setCell ⟨b, 1, none⟩ (.int .i64 ((a1 : Int) + 1)))) := hon
        clear h ht hN hBa hc hp hon
        go_enter Tryz.func61, Tryz.ntmps61
        go_wp2_with fail
        go_quiet (fail)
        go_wp2_with fail
        go_quiet (fail)
        go_wp2_with fail
        go_ret
        exact ⟨by rw [HD.out]; rfl, (HOn.out _).1, (HOn.out _).2.drewN _⟩
    · have hBa : B[a1]? = none := List.getElem?_eq_none (by rw [hN]; omega)
      rw [hBa]
      dsimp only
      have hd1 : decide ((N : Int) ≤ (a1 : Int)) = true := decide_eq_true (by omega)
      clear h ht hN hBa
      go_enter Tryz.func61, Tryz.ntmps61
      go_wp2_with fail
      go_quiet (fail)
      go_wp2_with fail
      go_ret
      exact ⟨rfl, (HU.out.wrong nq).1, (HU.out.wrong nq).2⟩
end

end Go.Proofs.YtnboanlhdllhnaaGreat

/- The document's reader of schemas, plainly: what it comes to, by what the bytes behind its place are. -/
namespace Go.Proofs.YtnboanlhdllhnaaGreat

def uRep {α : Type} (f : Us → α × Us) : Nat → Us → List α × Us
  | 0, s => ([], s)
  | k + 1, s => if s.2 = true then ([], s) else ((f s).1 :: (uRep f k (f s).2).1, (uRep f k (f s).2).2)
theorem uRep_stop {α : Type} (f : Us → α × Us) : ∀ (k : Nat) (s : Us), s.2 = true → uRep f k s = ([], s)
  | 0, _, _ => rfl
  | k + 1, s, h => by rw [uRep, if_pos h]
theorem uRep_next {α : Type} (f : Us → α × Us) : ∀ (k : Nat) (s : Us), (uRep f k s).2.2 = false → uRep f (k + 1) s = ((uRep f k s).1 ++ [(f (uRep f k s).2).1], (f (uRep f k s).2).2)
  | 0, s, h => by
    have h' : ¬ s.2 = true := by have : s.2 = false := h; rw [this]; decide
    show (if s.2 = true then (([] : List α), s) else ((f s).1 :: (uRep f 0 (f s).2).1, (uRep f 0 (f s).2).2)) = _
    rw [if_neg h']
    rfl
  | k + 1, s, h => by
    by_cases hs : s.2 = true
    · rw [uRep_stop f _ _ hs] at h
      rw [show s.2 = false from h] at hs; cases hs
    · rw [uRep, if_neg hs] at h
      rw [uRep, if_neg hs, uRep_next f k (f s).2 h]
      conv => rhs; rw [uRep, if_neg hs]
      rfl
theorem uRep_end {α : Type} (f : Us → α × Us) : ∀ (k m : Nat) (s : Us), k ≤ m → (uRep f k s).2.2 = true → uRep f m s = uRep f k s
  | 0, m, s, _, h => by rw [uRep_stop f m s h]; rfl
  | k + 1, m, s, hm, h => by
    obtain ⟨m, rfl⟩ : ∃ m', m = m' + 1 := ⟨m - 1, by omega⟩
    by_cases hs : s.2 = true
    · rw [uRep_stop f _ _ hs, uRep_stop f _ _ hs]
    · rw [uRep, if_neg hs] at h
      rw [uRep, if_neg hs, uRep_end f k m (f s).2 (by omega) h]
      conv => rhs; rw [uRep, if_neg hs]

section
variable (B : List UInt8)
def uL {α : Type} (f : Us → α × Us) (s : Us) : List α × Us := uRep f (uM B s).1 (uM B s).2
def uC (s : Us) : (ByteArray × Int) × Us := (((uT B s).1, (uN B (uT B s).2).1), (uN B (uT B s).2).2)
def uX (s : Us) : Ix × Us := (⟨(uT B s).1, (uL B (uN B) (uT B s).2).1, (uF B (uL B (uN B) (uT B s).2).2).1⟩, (uF B (uL B (uN B) (uT B s).2).2).2)
def uTb (s : Us) : Tab × Us :=
  (⟨(uT B s).1, (uL B (uC B) (uT B s).2).1, (uN B (uL B (uC B) (uT B s).2).2).1, (uL B (uX B) (uN B (uL B (uC B) (uT B s).2).2).2).1⟩, (uL B (uX B) (uN B (uL B (uC B) (uT B s).2).2).2).2)

theorem stays_rep {α : Type} {f : Us → α × Us} (h : Stays B f) : ∀ k, Stays B (uRep f k)
  | 0, _, hs => hs
  | k + 1, s, hs => by
    unfold uRep
    split
    · exact hs
    · exact stays_rep h k (f s).2 (h s hs)
theorem stays_list {α : Type} {f : Us → α × Us} (h : Stays B f) : Stays B (uL B f) := fun s hs => stays_rep B h _ _ (stays_many B s hs)
theorem stays_col : Stays B (uC B) := fun s hs => stays_num B _ (stays_text B s hs)
theorem stays_ix : Stays B (uX B) := fun s hs => stays_flag B _ (stays_list B (stays_num B) _ (stays_text B s hs))
theorem stays_tab : Stays B (uTb B) := fun s hs => stays_list B (stays_ix B) _ (stays_num B _ (stays_list B (stays_col B) _ (stays_text B s hs)))

/-- what it comes to, by what the bytes are -/
structure URds {α : Type} (rd : Rd α) (f : Us → α × Us) : Prop where
  yes : ∀ p x r, p ≤ B.length → rd (B.drop p) = some (x, r) → ∃ p', f (p, false) = (x, (p', false)) ∧ p' ≤ B.length ∧ B.drop p' = r
  no : ∀ p, p ≤ B.length → rd (B.drop p) = none → (f (p, false)).2.2 = true
  stuck : ∀ p, (f (p, true)).2.2 = true
theorem urd_num : URds B rdNum (uN B) := by
  refine ⟨fun p x r hp h => ?_, fun p hp h => ?_, fun p => ?_⟩
  · unfold rdNum at h
    rw [List.length_drop] at h
    split at h
    · rename_i h8
      simp only [Option.some.injEq, Prod.mk.injEq] at h
      refine ⟨p + 8, ?_, by omega, by rw [← h.2, List.drop_drop]⟩
      unfold uN
      rw [if_neg (by rw [not_or]; exact ⟨by simp, by simp only; omega⟩)]
      simp only
      rw [h.1]
    · cases h
  · unfold rdNum at h
    rw [List.length_drop] at h
    split at h
    · cases h
    · unfold uN
      rw [if_pos (Or.inr (by simp only; omega))]
  · unfold uN
    rw [if_pos (Or.inl rfl)]
theorem uN_zero {p : Nat} {z : Bool} (h : (uN B (p, z)).2.2 = true) : (uN B (p, z)).1 = 0 := by
  unfold uN at h ⊢
  split at h
  · rename_i hc; rw [if_pos hc]
  · cases h
theorem urd_many : URds B rdMany (uM B) := by
  refine ⟨fun p x r hp h => ?_, fun p hp h => ?_, fun p => ?_⟩
  · unfold rdMany at h
    obtain ⟨⟨n, q⟩, h1, h2⟩ := bind_some h
    obtain ⟨p', e1, e2, e3⟩ := (urd_num B).yes p n q hp h1
    simp only at h2
    split at h2
    · rename_i hc
      simp only [Option.some.injEq, Prod.mk.injEq] at h2
      obtain ⟨rfl, rfl⟩ := h2
      refine ⟨p', ?_, e2, e3⟩
      unfold uM
      rw [e1]
      simp only
      rw [if_neg (by omega)]
    · cases h2
  · unfold rdMany at h
    unfold uM
    rcases bind_none h with h1 | ⟨⟨n, q⟩, h1, h2⟩
    · have := (urd_num B).no p hp h1
      split
      · rfl
      · exact this
    · obtain ⟨p', e1, e2, e3⟩ := (urd_num B).yes p n q hp h1
      simp only at h2
      split at h2
      · cases h2
      · rename_i hc
        rw [e1]
        simp only
        rw [if_pos (by omega)]
  · unfold uM
    have := (urd_num B).stuck p
    split
    · rfl
    · exact this
theorem urd_text : URds B rdTxt (uT B) := by
  refine ⟨fun p x r hp h => ?_, fun p hp h => ?_, fun p => ?_⟩
  · unfold rdTxt at h
    obtain ⟨⟨n, q⟩, h1, h2⟩ := bind_some h
    obtain ⟨p', e1, e2, e3⟩ := (urd_num B).yes p n q hp h1
    simp only at h2
    split at h2
    · rename_i hc
      simp only [Option.some.injEq, Prod.mk.injEq] at h2
      obtain ⟨rfl, rfl⟩ := h2
      have hl : q.length = B.length - p' := by rw [← e3, List.length_drop]
      refine ⟨p' + n.toNat, ?_, by omega, by rw [← e3, List.drop_drop]⟩
      unfold uT
      rw [e1]
      simp only
      rw [if_neg (by rw [not_or, not_or]; exact ⟨by simp, by omega, by omega⟩), e3]
      rfl
    · cases h2
  · unfold rdTxt at h
    unfold uT
    rcases bind_none h with h1 | ⟨⟨n, q⟩, h1, h2⟩
    · rw [if_pos (Or.inl ((urd_num B).no p hp h1))]
    · obtain ⟨p', e1, e2, e3⟩ := (urd_num B).yes p n q hp h1
      have hl : q.length = B.length - p' := by rw [← e3, List.length_drop]
      simp only at h2
      split at h2
      · cases h2
      · rename_i hc
        rw [e1]
        simp only
        rw [if_pos (by omega)]
  · unfold uT
    rw [if_pos (Or.inl ((urd_num B).stuck p))]
theorem urd_flag : URds B rdFlag (uF B) := by
  refine ⟨fun p x r hp h => ?_, fun p hp h => ?_, fun p => rfl⟩
  · cases hq : B.drop p with
    | nil => rw [hq] at h; cases h
    | cons y q =>
      rw [hq] at h
      have hy : B[p]? = some y := by
        have : (B.drop p)[0]? = some y := by rw [hq]; rfl
        rw [List.getElem?_drop] at this
        exact this
      have hlt := (List.getElem?_eq_some_iff.1 hy).1
      have hd : B.drop (p + 1) = q := by rw [← List.drop_drop, hq]; rfl
      unfold rdFlag at h
      simp only at h
      unfold uF
      simp only
      rw [if_neg (by simp), hy]
      simp only
      split at h
      · rename_i h0
        cases h
        exact ⟨p + 1, by rw [if_neg (by omega), decide_eq_false (by omega)], by omega, hd⟩
      · split at h
        · rename_i h0 h1
          cases h
          exact ⟨p + 1, by rw [if_neg (by omega), decide_eq_true h1], by omega, hd⟩
        · cases h
  · unfold uF
    simp only
    rw [if_neg (by simp)]
    cases hq : B.drop p with
    | nil =>
      have hn : B[p]? = none := List.getElem?_eq_none (by have := congrArg List.length hq; rw [List.length_drop] at this; simp at this; omega)
      rw [hn]
    | cons y q =>
      rw [hq] at h
      have hy : B[p]? = some y := by
        have : (B.drop p)[0]? = some y := by rw [hq]; rfl
        rw [List.getElem?_drop] at this
        exact this
      rw [hy]
      simp only
      unfold rdFlag at h
      simp only at h
      split at h
      · cases h
      · split at h
        · cases h
        · rw [if_pos (by omega)]
section
variable {α : Type} {rd : Rd α} {f : Us → α × Us}
theorem urep_yes (h : URds B rd f) : ∀ k p x r, p ≤ B.length → rdRep rd k (B.drop p) = some (x, r) → ∃ p', uRep f k (p, false) = (x, (p', false)) ∧ p' ≤ B.length ∧ B.drop p' = r
  | 0, p, x, r, hp, e => by cases e; exact ⟨p, rfl, hp, rfl⟩
  | k + 1, p, x, r, hp, e => by
    rw [rdRep] at e
    obtain ⟨⟨y, q⟩, h1, h2⟩ := bind_some e
    obtain ⟨⟨l, s⟩, h3, h4⟩ := bind_some h2
    obtain ⟨rfl, rfl⟩ : y :: l = x ∧ s = r := by simpa using h4
    obtain ⟨p1, e1, e2, rfl⟩ := h.yes p y q hp h1
    obtain ⟨p2, f1, f2, f3⟩ := urep_yes h k p1 l s e2 h3
    exact ⟨p2, by rw [uRep, if_neg (by simp), e1, f1], f2, f3⟩
theorem urep_no (h : URds B rd f) : ∀ k p, p ≤ B.length → rdRep rd k (B.drop p) = none → (uRep f k (p, false)).2.2 = true
  | 0, p, _, e => by cases e
  | k + 1, p, hp, e => by
    rw [rdRep] at e
    rw [uRep, if_neg (by simp)]
    rcases bind_none e with h1 | ⟨⟨y, q⟩, h1, h2⟩
    · have := h.no p hp h1
      simp only
      rw [uRep_stop f _ _ this]
      exact this
    · obtain ⟨p1, e1, e2, rfl⟩ := h.yes p y q hp h1
      rw [e1]
      rcases bind_none h2 with h3 | ⟨⟨l, s⟩, h3, h4⟩
      · exact urep_no h k p1 e2 h3
      · cases h4
theorem urd_list (h : URds B rd f) : URds B (rdList rd) (uL B f) := by
  refine ⟨fun p x r hp e => ?_, fun p hp e => ?_, fun p => ?_⟩
  · unfold rdList at e
    obtain ⟨⟨n, q⟩, h1, h2⟩ := bind_some e
    obtain ⟨p1, e1, e2, rfl⟩ := (urd_many B).yes p n q hp h1
    obtain ⟨p2, f1, f2, f3⟩ := urep_yes B h n p1 x r e2 h2
    exact ⟨p2, by unfold uL; rw [e1]; exact f1, f2, f3⟩
  · unfold rdList at e
    unfold uL
    rcases bind_none e with h1 | ⟨⟨n, q⟩, h1, h2⟩
    · have := (urd_many B).no p hp h1
      rw [uRep_stop f _ _ this]
      exact this
    · obtain ⟨p1, e1, e2, rfl⟩ := (urd_many B).yes p n q hp h1
      rw [e1]
      exact urep_no B h n p1 e2 h2
  · unfold uL
    have := (urd_many B).stuck p
    rw [uRep_stop f _ _ this]
    exact this
end
theorem bad_at {s : Us} (h : s.2 = true) : ∃ p, s = (p, true) := ⟨s.1, Prod.ext rfl h⟩
theorem urd_col : URds B rdCol (uC B) := by
  have st : ∀ p, (uC B (p, true)).2.2 = true := fun p => by
    unfold uC
    obtain ⟨p1, e1⟩ := bad_at ((urd_text B).stuck p)
    rw [e1]
    exact (urd_num B).stuck p1
  refine ⟨fun p x r hp e => ?_, fun p hp e => ?_, st⟩
  · unfold rdCol at e
    obtain ⟨⟨t, q⟩, h1, h2⟩ := bind_some e
    obtain ⟨⟨n, u⟩, h3, h4⟩ := bind_some h2
    cases h4
    obtain ⟨p1, e1, e2, rfl⟩ := (urd_text B).yes p t q hp h1
    obtain ⟨p2, f1, f2, f3⟩ := (urd_num B).yes p1 n _ e2 h3
    exact ⟨p2, by unfold uC; rw [e1]; simp only; rw [f1], f2, f3⟩
  · unfold rdCol at e
    unfold uC
    rcases bind_none e with h1 | ⟨⟨t, q⟩, h1, h2⟩
    · obtain ⟨p1, e1⟩ := bad_at ((urd_text B).no p hp h1)
      rw [e1]
      exact (urd_num B).stuck p1
    · obtain ⟨p1, e1, e2, rfl⟩ := (urd_text B).yes p t q hp h1
      rw [e1]
      rcases bind_none h2 with h3 | ⟨⟨l, u⟩, h3, h4⟩
      · exact (urd_num B).no p1 e2 h3
      · cases h4
theorem urd_ix : URds B rdIx (uX B) := by
  have hn := urd_list B (urd_num B)
  refine ⟨fun p x r hp e => ?_, fun p hp e => ?_, fun p => ?_⟩
  · unfold rdIx at e
    obtain ⟨⟨t, q⟩, h1, h2⟩ := bind_some e
    obtain ⟨⟨n, u⟩, h3, h4⟩ := bind_some h2
    obtain ⟨⟨z, v⟩, h5, h6⟩ := bind_some h4
    cases h6
    obtain ⟨p1, e1, e2, rfl⟩ := (urd_text B).yes p t q hp h1
    obtain ⟨p2, f1, f2, rfl⟩ := hn.yes p1 n u e2 h3
    obtain ⟨p3, g1, g2, g3⟩ := (urd_flag B).yes p2 z _ f2 h5
    exact ⟨p3, by unfold uX; rw [e1]; simp only; rw [f1]; simp only; rw [g1], g2, g3⟩
  · unfold rdIx at e
    unfold uX
    rcases bind_none e with h1 | ⟨⟨t, q⟩, h1, h2⟩
    · obtain ⟨p1, e1⟩ := bad_at ((urd_text B).no p hp h1)
      rw [e1]
      obtain ⟨p2, e2⟩ := bad_at (hn.stuck p1)
      rw [e2]
      exact (urd_flag B).stuck p2
    · obtain ⟨p1, e1, e2, rfl⟩ := (urd_text B).yes p t q hp h1
      rw [e1]
      simp only
      rcases bind_none h2 with h3 | ⟨⟨l, u⟩, h3, h4⟩
      · obtain ⟨p2, f2⟩ := bad_at (hn.no p1 e2 h3)
        rw [f2]
        exact (urd_flag B).stuck p2
      · obtain ⟨p2, f1, f2, rfl⟩ := hn.yes p1 l u e2 h3
        rw [f1]
        rcases bind_none h4 with h5 | ⟨⟨z, v⟩, h5, h6⟩
        · exact (urd_flag B).no p2 f2 h5
        · cases h6
  · unfold uX
    obtain ⟨p1, e1⟩ := bad_at ((urd_text B).stuck p)
    rw [e1]
    obtain ⟨p2, e2⟩ := bad_at (hn.stuck p1)
    rw [e2]
    exact (urd_flag B).stuck p2
theorem urd_tab : URds B rdTab (uTb B) := by
  have hc := urd_list B (urd_col B)
  have hx := urd_list B (urd_ix B)
  refine ⟨fun p x r hp e => ?_, fun p hp e => ?_, fun p => ?_⟩
  · unfold rdTab at e
    obtain ⟨⟨t, q⟩, h1, h2⟩ := bind_some e
    obtain ⟨⟨n, u⟩, h3, h4⟩ := bind_some h2
    obtain ⟨⟨z, v⟩, h5, h6⟩ := bind_some h4
    obtain ⟨⟨y, m⟩, h7, h8⟩ := bind_some h6
    cases h8
    obtain ⟨p1, e1, e2, rfl⟩ := (urd_text B).yes p t q hp h1
    obtain ⟨p2, f1, f2, rfl⟩ := hc.yes p1 n u e2 h3
    obtain ⟨p3, g1, g2, rfl⟩ := (urd_num B).yes p2 z v f2 h5
    obtain ⟨p4, k1, k2, k3⟩ := hx.yes p3 y _ g2 h7
    exact ⟨p4, by unfold uTb; rw [e1]; simp only; rw [f1]; simp only; rw [g1]; simp only; rw [k1], k2, k3⟩
  · unfold rdTab at e
    unfold uTb
    rcases bind_none e with h1 | ⟨⟨t, q⟩, h1, h2⟩
    · obtain ⟨p1, e1⟩ := bad_at ((urd_text B).no p hp h1)
      rw [e1]
      obtain ⟨p2, e2⟩ := bad_at (hc.stuck p1)
      rw [e2]
      obtain ⟨p3, e3⟩ := bad_at ((urd_num B).stuck p2)
      rw [e3]
      exact hx.stuck p3
    · obtain ⟨p1, e1, e2, rfl⟩ := (urd_text B).yes p t q hp h1
      rw [e1]
      simp only
      rcases bind_none h2 with h3 | ⟨⟨l, u⟩, h3, h4⟩
      · obtain ⟨p2, f2⟩ := bad_at (hc.no p1 e2 h3)
        rw [f2]
        obtain ⟨p3, e3⟩ := bad_at ((urd_num B).stuck p2)
        rw [e3]
        exact hx.stuck p3
      · obtain ⟨p2, f1, f2, rfl⟩ := hc.yes p1 l u e2 h3
        rw [f1]
        simp only
        rcases bind_none h4 with h5 | ⟨⟨z, v⟩, h5, h6⟩
        · obtain ⟨p3, e3⟩ := bad_at ((urd_num B).no p2 f2 h5)
          rw [e3]
          exact hx.stuck p3
        · obtain ⟨p3, g1, g2, rfl⟩ := (urd_num B).yes p2 z v f2 h5
          rw [g1]
          rcases bind_none h6 with h7 | ⟨⟨y, m⟩, h7, h8⟩
          · exact hx.no p3 g2 h7
          · cases h8
  · unfold uTb
    obtain ⟨p1, e1⟩ := bad_at ((urd_text B).stuck p)
    rw [e1]
    obtain ⟨p2, e2⟩ := bad_at (hc.stuck p1)
    rw [e2]
    obtain ⟨p3, e3⟩ := bad_at ((urd_num B).stuck p2)
    rw [e3]
    exact hx.stuck p3
end

end Go.Proofs.YtnboanlhdllhnaaGreat
