/- The program's frames, one behind the other, are the document's. -/
import Derived.Test.YthiihilifckapaaFRefE
import Derived.Test.YthiihilifckapaaFUnf
namespace Go.Proofs.Ythiihilifckapaa
open Go.RowKit

set_option maxRecDepth 100000 in
set_option maxHeartbeats 1000000 in
theorem fFrames_any (b : ByteArray) (w : World) (hb : b.size ≤ 35184372088832) :
    Calls Try.prog 13 #[.string b] w fun e w' => ∃ v, e = .returned (.tuple #[v, .int .i64 ((frames b).2 : Int)]) ∧ w'.ownsRow w.heap.size 9 1 v (frames b).1.length ((frames b).1.map Go.Proofs.encStr) ∧ Below w.heap.size w w' := by
  obtain ⟨i0, hi, hz0, hz1, hz2⟩ := infoStr_parts
  have HB : Hid (b.size ≤ 35184372088832) := hb
  go_enter Try.func13, Try.ntmps13
  go_wp2_with fail
  go_loopw [2, 3] (fun out i wr => ∃ (a : Nat) (L : List (List UInt8)), a ≤ b.size ∧ i = .int .i64 a ∧ 8 * L.length ≤ a ∧ frames b = (L ++ (framesAt b a).1, (framesAt b a).2) ∧ wr.ownsRow w.heap.size 9 1 out L.length (L.map Go.Proofs.encStr) ∧ Below w.heap.size w wr) (fun _ i _ => b.size - (intOf i).toNat)
  case atStart => exact ⟨0, [], Nat.zero_le _, rfl, Nat.le_refl _, rfl, World.ownsRow_nil _ _ _ _, Below.refl _ _⟩
  case round =>
    obtain ⟨a, L, ha, rfl, h8, hfr, hrow, hbr⟩ := hrel
    have HR : Hid (wr.ownsRow w.heap.size 9 1 u2 L.length (L.map Go.Proofs.encStr)) := hrow
    have HF : Hid (frames b = (L ++ (framesAt b a).1, (framesAt b a).2)) := hfr
    have hsz1 : w.heap.size ≤ wr.heap.size := hbr.size
    obtain ⟨F, hF⟩ : ∃ F, found b a = F := ⟨_, rfl⟩
    have HU : Hid (Calls Try.prog 11 #[.string b, .int .i64 (a : Int)] wr fun e w' => e = .returned F.en ∧ Below wr.heap.size wr w') := hF ▸ fUnframe_any b a wr (Nat.le_trans HB.out (by decide))
    clear hrow hfr
    obtain ⟨x, s, p, c⟩ := F
    have hen : (Found.mk x s p c).en = .tuple #[.string x, .int .i64 s, .agg #[.int .i64 p, .int .i64 c]] := rfl
    rw [hen] at HU
    by_cases hc : c = 0
    · subst hc
      obtain ⟨k, hk, hk1, hk2⟩ := found_ok (b := b) (a := a) (by rw [hF])
      have HN : Hid (framesAt b a = (x.data.toList :: (framesAt b k).1, (framesAt b k).2)) := (by
        rw [framesAt_next (by rw [hF]) hk, hF] : _ = _)
      rw [hF] at hk
      have hk' : s = (k : Int) := hk
      clear hk hF
      subst hk'
      go_wp2_with (first
        | (go_at_call 11; refine (HU.out).mono ?_; rintro e w1 ⟨rfl, hw1⟩; have HR1 : Hid (w1.ownsRow w.heap.size 9 1 u2 L.length (L.map Go.Proofs.encStr)) := row_kept HR.out hw1; have hsz2 : w.heap.size ≤ w1.heap.size := Nat.le_trans hsz1 hw1.size)
        | (at_builtin; go_must (refine wpList_append_own _ rfl _ _ 31 rfl w.heap.size 9 i0 (.string ByteArray.empty) 1 16 Try.underlying31 hi hz0 hz1 hz2 rfl (by decide) _ L.length _ rfl ((HR1.out.alloc _).alloc _) ⟨w1.heap.size + 1, 0, none⟩ 1 1 [.string x] rfl rfl ?q1 ?q2 ?q3 ?q4 ?q5 ?_)))
      case q1 =>
        intro i u hu
        rw [Addr.add_lit]
        match i, hu with
        | 0, hu => simpa [go_sem] using hu
      case q2 =>
        intro u hu
        simp only [List.mem_cons, List.not_mem_nil, or_false] at hu
        subst hu
        rfl
      case q3 => unfold maxLen; omega
      case q4 => omega
      case q5 => simp; omega
      intro v' w3 hown3 hgrow3 _
      go_wp2
      go_roundw
      case rel =>
        refine ⟨k, L ++ [x.data.toList], by omega, by go_num, by simp; omega, ?_, ?_, ?_⟩
        · rw [HF.out, HN.out]
          simp
        · rw [List.map_append, List.length_append]
          have e3 : [x.data.toList].map Go.Proofs.encStr = [Value.string x] := by
            show [Go.Proofs.encStr x.data.toList] = _
            rw [enc_self]
          rw [e3]
          exact hown3
        · exact (((hbr.trans (hw1.mono hsz1)).alloc (by omega) _).alloc (by simp; omega) _).grown hgrow3 (by simp; omega) (fun i hi => (HR1.out.lt i hi).1)
      case measure => simp [intOf]; omega
    · have HN : Hid (framesAt b a = ([], a)) := framesAt_end (by rw [hF]; exact hc)
      have hc' : (c != 0) = true := by simpa using hc
      clear hF
      go_wp2_with (go_at_call 11; refine (HU.out).mono ?_; rintro e w1 ⟨rfl, hw1⟩)
      go_ret2
      rw [HF.out, HN.out]
      refine ⟨_, rfl, ?_, (hbr.trans (hw1.mono hsz1)).alloc (Nat.le_trans hsz1 hw1.size) _⟩
      rw [List.append_nil]
      exact (row_kept HR.out hw1).alloc _

end Go.Proofs.Ythiihilifckapaa
