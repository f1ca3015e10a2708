/- The calls at a connection or a side that there is not, and below 0: a net's, and the reference's. -/
import Derived.Test.YthfmppghdlniiaaSRefM
namespace Go.Proofs.Ythfmppghdlniiaa
open Go.RowKit

theorem badE_len {R : List Wy} (c d : Int) : badE (R.map Wy.dr) c d = rbadE R.length c d := by unfold badE rbadE; rw [List.length_map]

section
variable {n r : Nat} {s : List Dr} {R : List Wy} {F : Nat → Prop}

set_option maxHeartbeats 400000 in
theorem write_bad (c d E : Int) (x : ByteArray) (w : World) (hI : NetI n s w F) (hE : badE s c d = E) (h0 : E ≠ 0) :
    Calls Try.prog 14 #[.pointer (some ⟨n, 0, none⟩), .int .i64 c, .int .i64 d, .string x] w fun e w' => e = .returned (.int .i64 E) ∧ w' = w := by
  have hf := find_bad c d w hI (by rw [hE]; exact h0)
  rw [hE] at hf
  have HF : Hid (Calls Try.prog 27 #[.pointer (some ⟨n, 0, none⟩), .int .i64 c, .int .i64 d] w fun e w' => e = .returned (.tuple #[.pointer none, .pointer none, .int .i64 E]) ∧ w' = w) := hf
  have hz : (E != 0) = true := by rw [bne_iff_ne]; exact h0
  clear hf hE hI h0
  go_enter Try.func14, Try.ntmps14
  go_wp2_with fail
  refine HF.out.mono ?_
  rintro e w1 ⟨rfl, rfl⟩
  go_wp2
  go_ret
  exact ⟨rfl, rfl⟩

set_option maxHeartbeats 400000 in
theorem rwrite_bad (c d E : Int) (x : ByteArray) (w : World) (hI : RefI r R w F) (hE : rbadE R.length c d = E) (h0 : E ≠ 0) :
    Calls Try.prog 21 #[.pointer (some ⟨r, 0, none⟩), .int .i64 c, .int .i64 d, .string x] w fun e w' => e = .returned (.int .i64 E) ∧ w' = w := by
  have hf := wrong_any c d w hI
  rw [hE] at hf
  have HF : Hid (Calls Try.prog 30 #[.pointer (some ⟨r, 0, none⟩), .int .i64 c, .int .i64 d] w fun e w' => e = .returned (.int .i64 E) ∧ w = w') := hf
  have hz : (E != 0) = true := by rw [bne_iff_ne]; exact h0
  clear hf hE hI h0
  go_enter Try.func21, Try.ntmps21
  go_wp2_with fail
  refine HF.out.mono ?_
  rintro e w1 ⟨rfl, rfl⟩
  go_wp2
  go_ret
  exact ⟨rfl, rfl⟩

set_option maxHeartbeats 400000 in
theorem arrive_bad (c d E : Int) (m : Int) (w : World) (hI : NetI n s w F) (hE : badE s c d = E) (h0 : E ≠ 0) :
    Calls Try.prog 15 #[.pointer (some ⟨n, 0, none⟩), .int .i64 c, .int .i64 d, .int .i64 m] w fun e w' => e = .returned (.tuple #[.int .i64 0, .int .i64 E]) ∧ w' = w := by
  have hf := find_bad c d w hI (by rw [hE]; exact h0)
  rw [hE] at hf
  have HF : Hid (Calls Try.prog 27 #[.pointer (some ⟨n, 0, none⟩), .int .i64 c, .int .i64 d] w fun e w' => e = .returned (.tuple #[.pointer none, .pointer none, .int .i64 E]) ∧ w' = w) := hf
  have hz : (E != 0) = true := by rw [bne_iff_ne]; exact h0
  clear hf hE hI h0
  go_enter Try.func15, Try.ntmps15
  go_wp2_with fail
  refine HF.out.mono ?_
  rintro e w1 ⟨rfl, rfl⟩
  go_wp2
  go_ret2
  exact ⟨rfl, rfl⟩

set_option maxHeartbeats 400000 in
theorem rarrive_bad (c d E : Int) (m : Int) (w : World) (hI : RefI r R w F) (hE : rbadE R.length c d = E) (h0 : E ≠ 0) :
    Calls Try.prog 22 #[.pointer (some ⟨r, 0, none⟩), .int .i64 c, .int .i64 d, .int .i64 m] w fun e w' => e = .returned (.tuple #[.int .i64 0, .int .i64 E]) ∧ w' = w := by
  have hf := wrong_any c d w hI
  rw [hE] at hf
  have HF : Hid (Calls Try.prog 30 #[.pointer (some ⟨r, 0, none⟩), .int .i64 c, .int .i64 d] w fun e w' => e = .returned (.int .i64 E) ∧ w = w') := hf
  have hz : (E != 0) = true := by rw [bne_iff_ne]; exact h0
  clear hf hE hI h0
  go_enter Try.func22, Try.ntmps22
  go_wp2_with fail
  refine HF.out.mono ?_
  rintro e w1 ⟨rfl, rfl⟩
  go_wp2
  go_ret2
  exact ⟨rfl, rfl⟩

set_option maxHeartbeats 400000 in
theorem read_bad (c d E : Int) (m : Int) (w : World) (hI : NetI n s w F) (hE : badE s c d = E) (h0 : E ≠ 0) :
    Calls Try.prog 16 #[.pointer (some ⟨n, 0, none⟩), .int .i64 c, .int .i64 d, .int .i64 m] w fun e w' => e = .returned (.tuple #[.string ⟨#[]⟩, .int .i64 E]) ∧ w' = w := by
  have hf := find_bad c d w hI (by rw [hE]; exact h0)
  rw [hE] at hf
  have HF : Hid (Calls Try.prog 27 #[.pointer (some ⟨n, 0, none⟩), .int .i64 c, .int .i64 d] w fun e w' => e = .returned (.tuple #[.pointer none, .pointer none, .int .i64 E]) ∧ w' = w) := hf
  have hz : (E != 0) = true := by rw [bne_iff_ne]; exact h0
  clear hf hE hI h0
  go_enter Try.func16, Try.ntmps16
  go_wp2_with fail
  refine HF.out.mono ?_
  rintro e w1 ⟨rfl, rfl⟩
  go_wp2
  go_ret2
  exact ⟨rfl, rfl⟩

set_option maxHeartbeats 400000 in
theorem rread_bad (c d E : Int) (m : Int) (w : World) (hI : RefI r R w F) (hE : rbadE R.length c d = E) (h0 : E ≠ 0) :
    Calls Try.prog 23 #[.pointer (some ⟨r, 0, none⟩), .int .i64 c, .int .i64 d, .int .i64 m] w fun e w' => e = .returned (.tuple #[.string ⟨#[]⟩, .int .i64 E]) ∧ w' = w := by
  have hf := wrong_any c d w hI
  rw [hE] at hf
  have HF : Hid (Calls Try.prog 30 #[.pointer (some ⟨r, 0, none⟩), .int .i64 c, .int .i64 d] w fun e w' => e = .returned (.int .i64 E) ∧ w = w') := hf
  have hz : (E != 0) = true := by rw [bne_iff_ne]; exact h0
  clear hf hE hI h0
  go_enter Try.func23, Try.ntmps23
  go_wp2_with fail
  refine HF.out.mono ?_
  rintro e w1 ⟨rfl, rfl⟩
  go_wp2
  go_ret2
  exact ⟨rfl, rfl⟩

set_option maxHeartbeats 400000 in
theorem close_bad (c d E : Int) (w : World) (hI : NetI n s w F) (hE : badE s c d = E) (h0 : E ≠ 0) :
    Calls Try.prog 17 #[.pointer (some ⟨n, 0, none⟩), .int .i64 c, .int .i64 d] w fun e w' => e = .returned (.int .i64 E) ∧ w' = w := by
  have hf := find_bad c d w hI (by rw [hE]; exact h0)
  rw [hE] at hf
  have HF : Hid (Calls Try.prog 27 #[.pointer (some ⟨n, 0, none⟩), .int .i64 c, .int .i64 d] w fun e w' => e = .returned (.tuple #[.pointer none, .pointer none, .int .i64 E]) ∧ w' = w) := hf
  have hz : (E != 0) = true := by rw [bne_iff_ne]; exact h0
  clear hf hE hI h0
  go_enter Try.func17, Try.ntmps17
  go_wp2_with fail
  refine HF.out.mono ?_
  rintro e w1 ⟨rfl, rfl⟩
  go_wp2
  go_ret
  exact ⟨rfl, rfl⟩

set_option maxHeartbeats 400000 in
theorem rclose_bad (c d E : Int) (w : World) (hI : RefI r R w F) (hE : rbadE R.length c d = E) (h0 : E ≠ 0) :
    Calls Try.prog 24 #[.pointer (some ⟨r, 0, none⟩), .int .i64 c, .int .i64 d] w fun e w' => e = .returned (.int .i64 E) ∧ w' = w := by
  have hf := wrong_any c d w hI
  rw [hE] at hf
  have HF : Hid (Calls Try.prog 30 #[.pointer (some ⟨r, 0, none⟩), .int .i64 c, .int .i64 d] w fun e w' => e = .returned (.int .i64 E) ∧ w = w') := hf
  have hz : (E != 0) = true := by rw [bne_iff_ne]; exact h0
  clear hf hE hI h0
  go_enter Try.func24, Try.ntmps24
  go_wp2_with fail
  refine HF.out.mono ?_
  rintro e w1 ⟨rfl, rfl⟩
  go_wp2
  go_ret
  exact ⟨rfl, rfl⟩

set_option maxHeartbeats 400000 in
theorem ended_bad (c d E : Int) (w : World) (hI : NetI n s w F) (hE : badE s c d = E) (h0 : E ≠ 0) :
    Calls Try.prog 18 #[.pointer (some ⟨n, 0, none⟩), .int .i64 c, .int .i64 d] w fun e w' => e = .returned (.tuple #[.bool false, .int .i64 E]) ∧ w' = w := by
  have hf := find_bad c d w hI (by rw [hE]; exact h0)
  rw [hE] at hf
  have HF : Hid (Calls Try.prog 27 #[.pointer (some ⟨n, 0, none⟩), .int .i64 c, .int .i64 d] w fun e w' => e = .returned (.tuple #[.pointer none, .pointer none, .int .i64 E]) ∧ w' = w) := hf
  have hz : (E != 0) = true := by rw [bne_iff_ne]; exact h0
  clear hf hE hI h0
  go_enter Try.func18, Try.ntmps18
  go_wp2_with fail
  refine HF.out.mono ?_
  rintro e w1 ⟨rfl, rfl⟩
  go_wp2
  go_ret2
  exact ⟨rfl, rfl⟩

set_option maxHeartbeats 400000 in
theorem rended_bad (c d E : Int) (w : World) (hI : RefI r R w F) (hE : rbadE R.length c d = E) (h0 : E ≠ 0) :
    Calls Try.prog 25 #[.pointer (some ⟨r, 0, none⟩), .int .i64 c, .int .i64 d] w fun e w' => e = .returned (.tuple #[.bool false, .int .i64 E]) ∧ w' = w := by
  have hf := wrong_any c d w hI
  rw [hE] at hf
  have HF : Hid (Calls Try.prog 30 #[.pointer (some ⟨r, 0, none⟩), .int .i64 c, .int .i64 d] w fun e w' => e = .returned (.int .i64 E) ∧ w = w') := hf
  have hz : (E != 0) = true := by rw [bne_iff_ne]; exact h0
  clear hf hE hI h0
  go_enter Try.func25, Try.ntmps25
  go_wp2_with fail
  refine HF.out.mono ?_
  rintro e w1 ⟨rfl, rfl⟩
  go_wp2
  go_ret2
  exact ⟨rfl, rfl⟩

set_option maxHeartbeats 400000 in
theorem pending_bad (c d E : Int) (w : World) (hI : NetI n s w F) (hE : badE s c d = E) (h0 : E ≠ 0) :
    Calls Try.prog 19 #[.pointer (some ⟨n, 0, none⟩), .int .i64 c, .int .i64 d] w fun e w' => e = .returned (.tuple #[.int .i64 0, .int .i64 0, .int .i64 E]) ∧ w' = w := by
  have hf := find_bad c d w hI (by rw [hE]; exact h0)
  rw [hE] at hf
  have HF : Hid (Calls Try.prog 27 #[.pointer (some ⟨n, 0, none⟩), .int .i64 c, .int .i64 d] w fun e w' => e = .returned (.tuple #[.pointer none, .pointer none, .int .i64 E]) ∧ w' = w) := hf
  have hz : (E != 0) = true := by rw [bne_iff_ne]; exact h0
  clear hf hE hI h0
  go_enter Try.func19, Try.ntmps19
  go_wp2_with fail
  refine HF.out.mono ?_
  rintro e w1 ⟨rfl, rfl⟩
  go_wp2
  go_ret3
  exact ⟨rfl, rfl⟩

set_option maxHeartbeats 400000 in
theorem rpending_bad (c d E : Int) (w : World) (hI : RefI r R w F) (hE : rbadE R.length c d = E) (h0 : E ≠ 0) :
    Calls Try.prog 26 #[.pointer (some ⟨r, 0, none⟩), .int .i64 c, .int .i64 d] w fun e w' => e = .returned (.tuple #[.int .i64 0, .int .i64 0, .int .i64 E]) ∧ w' = w := by
  have hf := wrong_any c d w hI
  rw [hE] at hf
  have HF : Hid (Calls Try.prog 30 #[.pointer (some ⟨r, 0, none⟩), .int .i64 c, .int .i64 d] w fun e w' => e = .returned (.int .i64 E) ∧ w = w') := hf
  have hz : (E != 0) = true := by rw [bne_iff_ne]; exact h0
  clear hf hE hI h0
  go_enter Try.func26, Try.ntmps26
  go_wp2_with fail
  refine HF.out.mono ?_
  rintro e w1 ⟨rfl, rfl⟩
  go_wp2
  go_ret3
  exact ⟨rfl, rfl⟩

set_option maxHeartbeats 400000 in
theorem arrive_neg (j t : Nat) (m : Int) (w : World) {d : Dr} (hI : NetI n s w F) (ht : t < 2) (hd : s[2 * j + t]? = some d) (hm : m < 0) :
    Calls Try.prog 15 #[.pointer (some ⟨n, 0, none⟩), .int .i64 (j : Int), .int .i64 (t : Int), .int .i64 m] w fun e w' => e = .returned (.tuple #[.int .i64 0, .int .i64 1]) ∧ Goes (NetI n s) w w' F := by
  obtain ⟨g, o1, o2, a, c, hf⟩ := hI.to ht hd
  have HF : Hid (Calls Try.prog 27 #[.pointer (some ⟨n, 0, none⟩), .int .i64 (j : Int), .int .i64 (t : Int)] w (fun e w' => e = .returned (.tuple #[.pointer (some ⟨g, o1, none⟩), .pointer (some ⟨g, o2, none⟩), .int .i64 0]) ∧ Goes (NetI n s) w w' F)) := hf.mono (by
      rintro e w' ⟨rfl, hc, h1, h2⟩
      exact ⟨rfl, Goes.behind h1 h2 (Goes.stay hc.stay)⟩)
  clear hf hd hI
  go_enter Try.func15, Try.ntmps15
  go_wp2_with fail
  refine HF.out.mono ?_
  rintro e w1 ⟨rfl, hg⟩
  have HG : Hid (Goes (NetI n s) w w1 F) := hg
  clear hg
  go_wp2
  go_ret2
  exact ⟨rfl, HG.out⟩

set_option maxHeartbeats 400000 in
theorem rarrive_neg (c d m : Int) (w : World) (hI : RefI r R w F) (hE : rbadE R.length c d = 0) (hm : m < 0) :
    Calls Try.prog 22 #[.pointer (some ⟨r, 0, none⟩), .int .i64 c, .int .i64 d, .int .i64 m] w fun e w' => e = .returned (.tuple #[.int .i64 0, .int .i64 1]) ∧ w' = w := by
  have hf := wrong_any c d w hI
  rw [hE] at hf
  have HF : Hid (Calls Try.prog 30 #[.pointer (some ⟨r, 0, none⟩), .int .i64 c, .int .i64 d] w fun e w' => e = .returned (.int .i64 0) ∧ w = w') := hf
  clear hf hE hI
  go_enter Try.func22, Try.ntmps22
  go_wp2_with fail
  refine HF.out.mono ?_
  rintro e w1 ⟨rfl, rfl⟩
  go_wp2
  go_ret2
  exact ⟨rfl, rfl⟩

set_option maxHeartbeats 400000 in
theorem read_neg (j t : Nat) (m : Int) (w : World) {d : Dr} (hI : NetI n s w F) (ht : t < 2) (hd : s[2 * j + t]? = some d) (hm : m < 0) :
    Calls Try.prog 16 #[.pointer (some ⟨n, 0, none⟩), .int .i64 (j : Int), .int .i64 (t : Int), .int .i64 m] w fun e w' => e = .returned (.tuple #[.string ⟨#[]⟩, .int .i64 1]) ∧ Goes (NetI n s) w w' F := by
  obtain ⟨g, o1, o2, a, c, hf⟩ := hI.to ht hd
  have HF : Hid (Calls Try.prog 27 #[.pointer (some ⟨n, 0, none⟩), .int .i64 (j : Int), .int .i64 (t : Int)] w (fun e w' => e = .returned (.tuple #[.pointer (some ⟨g, o1, none⟩), .pointer (some ⟨g, o2, none⟩), .int .i64 0]) ∧ Goes (NetI n s) w w' F)) := hf.mono (by
      rintro e w' ⟨rfl, hc, h1, h2⟩
      exact ⟨rfl, Goes.behind h1 h2 (Goes.stay hc.stay)⟩)
  clear hf hd hI
  go_enter Try.func16, Try.ntmps16
  go_wp2_with fail
  refine HF.out.mono ?_
  rintro e w1 ⟨rfl, hg⟩
  have HG : Hid (Goes (NetI n s) w w1 F) := hg
  clear hg
  go_wp2
  go_ret2
  exact ⟨rfl, HG.out⟩

set_option maxHeartbeats 400000 in
theorem rread_neg (c d m : Int) (w : World) (hI : RefI r R w F) (hE : rbadE R.length c d = 0) (hm : m < 0) :
    Calls Try.prog 23 #[.pointer (some ⟨r, 0, none⟩), .int .i64 c, .int .i64 d, .int .i64 m] w fun e w' => e = .returned (.tuple #[.string ⟨#[]⟩, .int .i64 1]) ∧ w' = w := by
  have hf := wrong_any c d w hI
  rw [hE] at hf
  have HF : Hid (Calls Try.prog 30 #[.pointer (some ⟨r, 0, none⟩), .int .i64 c, .int .i64 d] w fun e w' => e = .returned (.int .i64 0) ∧ w = w') := hf
  clear hf hE hI
  go_enter Try.func23, Try.ntmps23
  go_wp2_with fail
  refine HF.out.mono ?_
  rintro e w1 ⟨rfl, rfl⟩
  go_wp2
  go_ret2
  exact ⟨rfl, rfl⟩

end
end Go.Proofs.Ythfmppghdlniiaa
