/- The document's frames, one behind the other. -/
import Derived.Test.YthiihilifckapaaFRefD
import Derived.Deep.DeepMust
import Derived.Sort.EncStr
namespace Go.Proofs.Ythiihilifckapaa
open Go.RowKit

/-- the bodies from a place on, and the place behind the last one; n: no more than these -/
def framesF (b : ByteArray) : Nat → Nat → List (List UInt8) × Nat
  | 0, a => ([], a)
  | n + 1, a => if (found b a).code = 0 then ((found b a).body.data.toList :: (framesF b n (found b a).stop.toNat).1, (framesF b n (found b a).stop.toNat).2) else ([], a)

def frames (b : ByteArray) : List (List UInt8) × Nat := framesF b (b.size + 1) 0

theorem found_ok {b : ByteArray} {a : Nat} (h : (found b a).code = 0) : ∃ k : Nat, (found b a).stop = (k : Int) ∧ a + 8 ≤ k ∧ k ≤ b.size := by
  unfold found at h ⊢
  rw [show ((a : Int)).toNat = a by omega] at h ⊢
  by_cases h0 : (a : Int) < 0 ∨ (b.size : Int) < a
  · rw [if_pos h0] at h; simp at h
  rw [if_neg h0] at h ⊢
  by_cases h1 : b.size < a + 4
  · rw [if_pos h1] at h; simp at h
  rw [if_neg h1] at h ⊢
  by_cases h2 : 65536 < lenAt b a
  · rw [if_pos h2] at h; simp at h
  rw [if_neg h2] at h ⊢
  by_cases h3 : b.size < a + 8 + lenAt b a
  · rw [if_pos h3] at h; simp at h
  rw [if_neg h3] at h ⊢
  by_cases h4 : sumAt b a (lenAt b a) ≠ wasAt b a (lenAt b a)
  · rw [if_pos h4] at h; simp at h
  rw [if_neg h4]
  exact ⟨a + 8 + lenAt b a, by simp, by omega, by omega⟩

theorem framesF_more (b : ByteArray) : ∀ (n m a : Nat), b.size < a + n → b.size < a + m → framesF b n a = framesF b m a
  | 0, 0, _, _, _ => rfl
  | 0, m + 1, a, h, _ => by
    have hc : (found b a).code ≠ 0 := fun e => by
      obtain ⟨k, -, h1, h2⟩ := found_ok e
      omega
    simp only [framesF, if_neg hc]
  | n + 1, 0, a, _, h => by
    have hc : (found b a).code ≠ 0 := fun e => by
      obtain ⟨k, -, h1, h2⟩ := found_ok e
      omega
    simp only [framesF, if_neg hc]
  | n + 1, m + 1, a, h1, h2 => by
    by_cases hc : (found b a).code = 0
    · obtain ⟨k, e, h3, h4⟩ := found_ok hc
      have ih := framesF_more b n m k (by omega) (by omega)
      simp only [framesF, if_pos hc, e, Int.toNat_natCast, ih]
    · simp only [framesF, if_neg hc]

/-- what stands from a place on, for whatever is enough -/
def framesAt (b : ByteArray) (a : Nat) : List (List UInt8) × Nat := framesF b (b.size + 1) a

theorem framesAt_next {b : ByteArray} {a k : Nat} (h : (found b a).code = 0) (hk : (found b a).stop = (k : Int)) : framesAt b a = ((found b a).body.data.toList :: (framesAt b k).1, (framesAt b k).2) := by
  obtain ⟨k', e, h1, h2⟩ := found_ok h
  have ek : k' = k := by omega
  subst ek
  have ih := framesF_more b b.size (b.size + 1) k' (by omega) (by omega)
  show framesF b (b.size + 1) a = (_ :: (framesF b (b.size + 1) k').1, (framesF b (b.size + 1) k').2)
  rw [← ih]
  simp only [framesF, if_pos h, e, Int.toNat_natCast]

theorem framesAt_end {b : ByteArray} {a : Nat} (h : (found b a).code ≠ 0) : framesAt b a = ([], a) := by
  show framesF b (b.size + 1) a = _
  simp only [framesF, if_neg h]

theorem infoStr : (Try.prog.info? 9).map (fun i => (i.zero, i.size, i.bytes)) = some (some (.string ByteArray.empty), 1, 16) := by kernel_rfl

theorem infoStr_parts : ∃ i, Try.prog.info? 9 = some i ∧ i.zero = some (.string ByteArray.empty) ∧ i.size = 1 ∧ i.bytes = 16 := by
  have h := infoStr
  cases hq : Try.prog.info? 9 with
  | none => rw [hq] at h; cases h
  | some i =>
    rw [hq] at h
    simp only [Option.map_some, Option.some.injEq, Prod.mk.injEq] at h
    exact ⟨i, rfl, h.1, h.2.1, h.2.2⟩

theorem enc_self (x : ByteArray) : Go.Proofs.encStr x.data.toList = .string x := by cases x; rfl

theorem row_kept {w w' : World} {base : Nat} {e : TypeId} {size : Nat} {v : Value} {n : Nat} {xs : List Value} (h : w.ownsRow base e size v n xs) (hb : Below w.heap.size w w') : w'.ownsRow base e size v n xs :=
  ownsRow_block h fun g hg => hb.block g (h.lt g hg).2

set_option maxRecDepth 100000 in
set_option maxHeartbeats 1000000 in
theorem rfFrames_any (b : ByteArray) (w : World) (hb : b.size ≤ 35184372088832) :
    Calls Try.prog 14 #[.string b] w fun e w' => ∃ v, e = .returned (.tuple #[v, .int .i64 ((frames b).2 : Int)]) ∧ w'.ownsRow w.heap.size 9 1 v (frames b).1.length ((frames b).1.map Go.Proofs.encStr) ∧ Below w.heap.size w w' := by
  obtain ⟨i0, hi, hz0, hz1, hz2⟩ := infoStr_parts
  have hbm : b.size ≤ maxLen := by unfold maxLen; omega
  have HB : Hid (b.size ≤ maxLen) := hbm
  clear hbm
  go_enter Try.func14, Try.ntmps14
  go_wp2_with fail
  go_loopw [4, 5] (fun out i wr => ∃ (a : Nat) (L : List (List UInt8)), a ≤ b.size ∧ i = .int .i64 a ∧ 8 * L.length ≤ a ∧ frames b = (L ++ (framesAt b a).1, (framesAt b a).2) ∧ wr.ownsRow w.heap.size 9 1 out L.length (L.map Go.Proofs.encStr) ∧ Below w.heap.size w wr) (fun _ i _ => b.size - (intOf i).toNat)
  case atStart => exact ⟨0, [], Nat.zero_le _, rfl, Nat.le_refl _, rfl, World.ownsRow_nil _ _ _ _, Below.refl _ _⟩
  case round =>
    obtain ⟨a, L, ha, rfl, h8, hfr, hrow, hbr⟩ := hrel
    have HR : Hid (wr.ownsRow w.heap.size 9 1 u4 L.length (L.map Go.Proofs.encStr)) := hrow
    have HF : Hid (frames b = (L ++ (framesAt b a).1, (framesAt b a).2)) := hfr
    have hsz1 : w.heap.size ≤ wr.heap.size := hbr.size
    obtain ⟨F, hF⟩ : ∃ F, found b a = F := ⟨_, rfl⟩
    have HU : Hid (Calls Try.prog 12 #[.string b, .int .i64 (a : Int)] wr fun e w' => e = .returned F.en ∧ Below wr.heap.size wr w') := hF ▸ rfUnframe_any b a wr HB.out
    clear hrow hfr
    obtain ⟨x, s, p, c⟩ := F
    have hen : (Found.mk x s p c).en = .tuple #[.string x, .int .i64 s, .agg #[.int .i64 p, .int .i64 c]] := rfl
    rw [hen] at HU
    by_cases hc : c = 0
    · subst hc
      obtain ⟨k, hk, hk1, hk2⟩ := found_ok (b := b) (a := a) (by rw [hF])
      have HN : Hid (framesAt b a = (x.data.toList :: (framesAt b k).1, (framesAt b k).2)) := (by
        rw [framesAt_next (by rw [hF]) hk, hF] : _ = _)
      rw [hF] at hk
      have hk' : s = (k : Int) := hk
      clear hk hF
      subst hk'
      go_wp2_with (first
        | (go_at_call 12; refine (HU.out).mono ?_; rintro e w1 ⟨rfl, hw1⟩; have HR1 : Hid (w1.ownsRow w.heap.size 9 1 u4 L.length (L.map Go.Proofs.encStr)) := row_kept HR.out hw1; have hsz2 : w.heap.size ≤ w1.heap.size := Nat.le_trans hsz1 hw1.size)
        | (at_builtin; go_must (refine wpList_append_own _ rfl _ _ 31 rfl w.heap.size 9 i0 (.string ByteArray.empty) 1 16 Try.underlying31 hi hz0 hz1 hz2 rfl (by decide) _ L.length _ rfl ((HR1.out.alloc _).alloc _) ⟨w1.heap.size + 1, 0, none⟩ 1 1 [.string x] rfl rfl ?q1 ?q2 ?q3 ?q4 ?q5 ?_)))
      case q1 =>
        intro i u hu
        rw [Addr.add_lit]
        match i, hu with
        | 0, hu => simpa [go_sem] using hu
      case q2 =>
        intro u hu
        simp only [List.mem_cons, List.not_mem_nil, or_false] at hu
        subst hu
        rfl
      case q3 => unfold maxLen; omega
      case q4 => omega
      case q5 => simp; omega
      intro v' w3 hown3 hgrow3 _
      go_wp2
      go_roundw
      case rel =>
        refine ⟨k, L ++ [x.data.toList], by omega, by go_num, by simp; omega, ?_, ?_, ?_⟩
        · rw [HF.out, HN.out]
          simp
        · rw [List.map_append, List.length_append]
          have e3 : [x.data.toList].map Go.Proofs.encStr = [Value.string x] := by
            show [Go.Proofs.encStr x.data.toList] = _
            rw [enc_self]
          rw [e3]
          exact hown3
        · exact (((hbr.trans (hw1.mono hsz1)).alloc (by omega) _).alloc (by simp; omega) _).grown hgrow3 (by simp; omega) (fun i hi => (HR1.out.lt i hi).1)
      case measure => simp [intOf]; omega
    · have HN : Hid (framesAt b a = ([], a)) := framesAt_end (by rw [hF]; exact hc)
      have hc' : (c != 0) = true := by simpa using hc
      clear hF
      go_wp2_with (go_at_call 12; refine (HU.out).mono ?_; rintro e w1 ⟨rfl, hw1⟩)
      go_ret2
      rw [HF.out, HN.out]
      refine ⟨_, rfl, ?_, (hbr.trans (hw1.mono hsz1)).alloc (Nat.le_trans hsz1 hw1.size) _⟩
      rw [List.append_nil]
      exact (row_kept HR.out hw1).alloc _

end Go.Proofs.Ythiihilifckapaa
