/- The law FrameBack: its walk. -/
import Derived.Test.YthiihilifckapaaFBackP
import Derived.Test.YthiihilifckapaaFTexts
import Derived.Test.YthiihilifckapaaFWorks
import Derived.Test.YthiihilifckapaaOpen
namespace Go.Proofs.Ythiihilifckapaa.Back
open Go.RowKit

def strOne (s : ByteArray) : List Value := [.string s]

theorem app_list (a b : ByteArray) : (a ++ b).data.toList = a.data.toList ++ b.data.toList := by
  rw [ByteArray.data_append, Array.toList_append]

theorem app_of (l : List UInt8) (b : ByteArray) : bytesOf l ++ b = bytesOf (l ++ b.data.toList) := by
  apply ByteArray.ext
  apply Array.ext'
  rw [app_list]
  rfl

theorem goods_len (M : List ByteArray) : (goods M).length ≤ M.length := List.length_filter_le ..

theorem many_all (A : ByteArray) (M : List ByteArray) (hM : ∀ s ∈ M, s.size ≤ 65536) (hA : A.data.toList = flatF M) (h : A.size ≤ 2000000) (w : World) :
    Calls Try.prog 13 #[.string A] w fun e w' => ∃ v, e = .returned (.tuple #[v, .int .i64 (A.size : Int)]) ∧ StrsAt w' v (textsOf M) ∧ Below w.heap.size w w' := by
  have h1 := frames_all A M hM hA
  have h2 : (flatF M).length = A.size := by rw [← hA]; rfl
  rw [h2] at h1
  refine (fFrames_any A w (by omega)).mono ?_
  rintro e w' ⟨v, rfl, h3, h4⟩
  rw [h1] at h3 ⊢
  exact ⟨v, rfl, (strs_of_row h3).1, h4⟩

theorem four_ff : (ByteArray.mk #[255, 255, 255, 255]).size = 4 := rfl

theorem many_ff (A : ByteArray) (M : List ByteArray) (hM : ∀ s ∈ M, s.size ≤ 65536) (hA : A.data.toList = flatF M) (h : A.size ≤ 2000000) (w : World) :
    Calls Try.prog 13 #[.string (A ++ { data := #[255, 255, 255, 255] })] w fun e w' => ∃ v n, e = .returned (.tuple #[v, .int .i64 n]) ∧ StrsAt w' v (textsOf M) ∧ Below w.heap.size w w' := by
  obtain ⟨B, hB⟩ : ∃ B, A ++ { data := #[255, 255, 255, 255] } = B := ⟨_, rfl⟩
  have h5 : B.size ≤ 2000004 := by
    rw [← hB, ByteArray.size_append, four_ff]
    omega
  have h1 := frames_ff B M hM (by rw [← hB, app_list, hA])
  rw [hB]
  refine (fFrames_any B w (by omega)).mono ?_
  rintro e w' ⟨v, rfl, h3, h4⟩
  rw [h1] at h3
  exact ⟨v, _, rfl, (strs_of_row h3).1, h4⟩

set_option maxRecDepth 100000 in
set_option maxHeartbeats 1000000 in
theorem walk_many (v0 : Value) (L : List ByteArray) (ah be : ByteArray) (w : World) (hL : SliceAt w v0 1 strOne L) (h30 : 30 < L.length) :
    Calls Try.prog 4 #[v0, .string ah, .string be] w fun e w' => e = .returned (.bool true) ∧ Below w.heap.size w w' := by
  obtain ⟨a, c, rfl, -, -, -⟩ := hL
  obtain ⟨m, hm⟩ : ∃ m, L.length = m := ⟨_, rfl⟩
  rw [hm] at h30
  rw [hm]
  have h' : (30 : Int) < (m : Int) := by omega
  clear hm
  go_enter Try.func4, Try.ntmps4
  go_wp2_with (go_at_call 16; refine (works6_any _).mono ?_; rintro e w1 ⟨rfl, hw1⟩)
  go_ret
  exact ⟨rfl, hw1⟩

set_option maxRecDepth 100000 in
set_option maxHeartbeats 1000000 in
theorem walk_few (v0 : Value) (L : List ByteArray) (ah be : ByteArray) (w : World) (hL : SliceAt w v0 1 strOne L) (h30 : L.length ≤ 30) (ha : ah.size ≤ 140737488351232) (hbe : be.size ≤ 140737488351232) :
    Calls Try.prog 4 #[v0, .string ah, .string be] w fun e w' => e = .returned (.bool true) ∧ Below w.heap.size w w' := by
  obtain ⟨i0, hi, hz0, hz1, hz2⟩ := infoStr_parts
  obtain ⟨a, c, rfl, -, -, hx⟩ := hL
  have HX : Hid (L ≠ [] → ∃ b off, a = some ⟨b, off, none⟩ ∧ b < w.heap.size ∧ ∀ i, (h : i < L.length) → w.cell? ⟨b, off + i, none⟩ = some (.string L[i])) := fun hne => by
    obtain ⟨b, off, h1, h2, h3⟩ := hx hne
    refine ⟨b, off, h1, h2, fun i hi => ?_⟩
    have := h3 i hi 0 (.string L[i]) rfl
    simpa using this
  obtain ⟨m, hm⟩ : ∃ m, L.length = m := ⟨_, rfl⟩
  have HM : Hid (L.length = m) := hm
  rw [hm] at h30
  rw [hm]
  have h' : ¬ ((30 : Int) < (m : Int)) := by omega
  clear hm hx
  go_enter Try.func4, Try.ntmps4
  go_wp2_with (go_at_call 16; refine (works6_any _).mono ?_; rintro e w1 ⟨rfl, hw1⟩)
  go_loopw [7, 8, 27] (fun al inn i wr => ∃ j : Nat, j ≤ m ∧ i = .int .i64 j ∧ al = .string (bytesOf (flatF (goods (L.take j)))) ∧ wr.ownsRow w.heap.size 9 1 inn (textsOf (goods (L.take j))).length ((textsOf (goods (L.take j))).map Go.Proofs.encStr) ∧ Below w.heap.size w wr) (fun _ _ i _ => m - (intOf i).toNat)
  case atStart => exact ⟨0, Nat.zero_le _, rfl, rfl, World.ownsRow_nil _ _ _ _, hw1⟩
  case round =>
    obtain ⟨j, hj, rfl, rfl, hrow, hbr⟩ := hrel
    obtain ⟨A, hA⟩ : ∃ A, bytesOf (flatF (goods (L.take j))) = A := ⟨_, rfl⟩
    obtain ⟨T, hT⟩ : ∃ T, textsOf (goods (L.take j)) = T := ⟨_, rfl⟩
    have HG : Hid (textsOf (goods (L.take j)) = T) := hT
    have HA : Hid (bytesOf (flatF (goods (L.take j))) = A) := hA
    have hTl : T.length ≤ 30 := by
      have h1 := goods_len (L.take j)
      have h2 : (L.take j).length ≤ j := by rw [List.length_take]; omega
      have h3 : T.length = (goods (L.take j)).length := by rw [← hT]; simp [textsOf]
      omega
    have hAl : A.size ≤ 2000000 := by
      have h1 := flatF_le (goods (L.take j)) (goods_le _)
      have h2 := goods_len (L.take j)
      have h3 : (L.take j).length ≤ j := by rw [List.length_take]; omega
      have h4 : A.size = (flatF (goods (L.take j))).length := by rw [← hA]; rfl
      omega
    rw [hT] at hrow
    rw [hA]
    have HR : Hid (wr.ownsRow w.heap.size 9 1 u8 T.length (T.map Go.Proofs.encStr)) := hrow
    obtain ⟨tl, htl⟩ : ∃ tl, T.length = tl := ⟨_, rfl⟩
    obtain ⟨tv, htv⟩ : ∃ tv, T.map Go.Proofs.encStr = tv := ⟨_, rfl⟩
    have HTV : Hid (T.length = tl ∧ T.map Go.Proofs.encStr = tv) := ⟨htl, htv⟩
    rw [htl] at hTl
    have HRv : Hid (wr.ownsRow w.heap.size 9 1 u8 tl tv) := htl ▸ htv ▸ hrow
    have hsz1 : w.heap.size ≤ wr.heap.size := hbr.size
    clear hrow hA hT htl htv
    by_cases hlt : j < m
    · have hlL : j < L.length := by rw [HM.out]; exact hlt
      obtain ⟨b, off, rfl, hbl, hcells⟩ := HX.out (fun e => by rw [e] at hlL; simp at hlL)
      obtain ⟨s, hs⟩ : ∃ s, L[j] = s := ⟨_, rfl⟩
      have q : wr.cell? ⟨b, off + j, none⟩ = some (.string s) := by
        rw [hbr.cell (p := ⟨b, off + j, none⟩) hbl, hcells j hlL, hs]
      have hg := goods_take hlL
      rw [hs] at hg
      have hlI : (j : Int) < (m : Int) := by omega
      by_cases h16 : s.size ≤ 65536
      · rw [if_pos h16] at hg
        have HGG : Hid (goods (L.take (j + 1)) = goods (L.take j) ++ [s]) := hg
        obtain ⟨F, hF⟩ : ∃ F, frameB s = F := ⟨_, rfl⟩
        have hFs : F.size = s.size + 8 := by rw [← hF, frameB_size]
        have HF : Hid (∀ w : World, Calls Try.prog 7 #[.string s] w fun e w' => e = .returned (.tuple #[.string F, .int .i64 0]) ∧ Below w.heap.size w w') := fun w => hF ▸ fFrame_short s w h16
        have hFl : F.size ≤ 65544 := by omega
        obtain ⟨E, hE⟩ : ∃ E : Int, (ah.size : Int) + 8 + s.size = E := ⟨_, rfl⟩
        have x1 : IntKind.i64.wrap ((ah.size : Int) + (F.size : Int)) = E := by rw [wrap_small _ (by omega) (by omega), hFs, ← hE]; omega
        have HU : Hid (∀ w : World, Calls Try.prog 11 #[.string (ah ++ F ++ be), .int .i64 (ah.size : Int)] w fun e w' => e = .returned (.tuple #[.string s, .int .i64 E, .agg #[.int .i64 0, .int .i64 0]]) ∧ Below w.heap.size w w') := fun w => by
          have hXs : (ah ++ F ++ be).size ≤ 562949953421312 := by rw [ByteArray.size_append, ByteArray.size_append]; omega
          have h1 := fUnframe_any (ah ++ F ++ be) (ah.size : Int) w hXs
          have h2 := found_frame (ah ++ F ++ be) s ah.data.toList be.data.toList (by rw [← hF, app_list, app_list]) h16
          have h3 : ((ah.data.toList.length : Nat) : Int) = (ah.size : Int) := rfl
          rw [h3] at h2
          rw [h2, hE] at h1
          exact h1
        have HA2 : Hid (bytesOf (flatF (goods (L.take j) ++ [s])) = A ++ F) := (by
          rw [flatF_snoc, ← HA.out, app_of, hF] : _ = _)
        clear hg hcells hs hlL hF hE hFs
        go_wp2_with (first
          | (go_at_call 7; go_must (refine (HF.out _).mono ?_; rintro e w2 ⟨rfl, hw2⟩))
          | (go_at_call 11; go_must (refine (HU.out _).mono ?_; rintro e w3 ⟨rfl, hw3⟩); have HR3 : Hid (w3.ownsRow w.heap.size 9 1 u8 tl tv) := row_kept (row_kept HRv.out hw2) hw3; have hsz3 : w.heap.size ≤ w3.heap.size := Nat.le_trans hsz1 (Nat.le_trans hw2.size hw3.size))
          | (at_builtin; go_must (refine wpList_append_own _ rfl _ _ 31 rfl w.heap.size 9 i0 (.string ByteArray.empty) 1 16 Try.underlying31 hi hz0 hz1 hz2 rfl (by decide) _ tl _ rfl ((HR3.out.alloc _).alloc _) ⟨w3.heap.size + 1, 0, none⟩ 1 1 [.string s] rfl rfl ?q1 ?q2 ?q3 ?q4 ?q5 ?_)))
        case q1 =>
          intro i u hu
          rw [Addr.add_lit]
          match i, hu with
          | 0, hu => simpa [go_sem] using hu
        case q2 =>
          intro u hu
          simp only [List.mem_cons, List.not_mem_nil, or_false] at hu
          subst hu
          rfl
        case q3 => unfold maxLen; omega
        case q4 => omega
        case q5 => simp; omega
        intro v' w4 hown4 hgrow4 _
        go_wp2
        go_roundw
        case rel =>
          refine ⟨j + 1, by omega, by go_num, ?_, ?_, ?_⟩
          · rw [HGG.out, HA2.out]
          · rw [HGG.out, textsOf_snoc, HG.out, List.map_append, List.length_append, HTV.out.1, HTV.out.2]
            have e3 : [s.data.toList].map Go.Proofs.encStr = [Value.string s] := by
              show [Go.Proofs.encStr s.data.toList] = _
              rw [enc_self]
            rw [e3]
            exact hown4
          · have b2 := hbr.trans (hw2.mono hbr.size)
            have b3 := b2.trans (hw3.mono b2.size)
            exact ((b3.alloc (by omega) _).alloc (by simp; omega) _).grown hgrow4 (by simp; omega) (fun i hi => (HR3.out.lt i hi).1)
        case measure => simp [intOf]; omega
      · rw [if_neg h16] at hg
        have HGG : Hid (goods (L.take (j + 1)) = goods (L.take j)) := hg
        have HF : Hid (∀ w : World, Calls Try.prog 7 #[.string s] w fun e w' => e = .returned (.tuple #[.string .empty, .int .i64 2]) ∧ w' = w) := fun w => fFrame_long s w (by omega)
        have h17 : ¬ ((s.size : Int) ≤ 65536) := by omega
        clear hg hcells hs hlL
        go_wp2_with (go_at_call 7; go_must (refine (HF.out _).mono ?_; rintro e w2 ⟨rfl, rfl⟩))
        go_roundw
        case rel =>
          refine ⟨j + 1, by omega, by go_num, ?_, ?_, hbr⟩
          · rw [HGG.out, HA.out]
          · rw [HGG.out, HG.out]
            exact HR.out
        case measure => simp [intOf]; omega
    · have hjm : j = m := by omega
      subst hjm
      have hG1 := goods_le (L.take j)
      have HAl : Hid (A.data.toList = flatF (goods (L.take j))) := (by rw [← HA.out]; rfl : _ = _)
      have HL1 : Hid (∀ w : World, Calls Try.prog 13 #[.string A] w fun e w' => ∃ v, e = .returned (.tuple #[v, .int .i64 (A.size : Int)]) ∧ StrsAt w' v T ∧ Below w.heap.size w w') := fun w => HG.out ▸ many_all A _ hG1 HAl.out hAl w
      have HL2 : Hid (∀ w : World, Calls Try.prog 13 #[.string (A ++ { data := #[255, 255, 255, 255] })] w fun e w' => ∃ v n, e = .returned (.tuple #[v, .int .i64 n]) ∧ StrsAt w' v T ∧ Below w.heap.size w w') := fun w => HG.out ▸ many_ff A _ hG1 HAl.out hAl w
      have HS0 : Hid (StrsAt wr u8 T) := (strs_of_row HR.out).1
      clear hG1
      go_wp2_with (go_at_call 13; go_must (refine (HL1.out _).mono ?_))
      rintro e w2 ⟨v2, rfl, hv2, hw2⟩
      have HV2 : Hid (StrsAt w2 v2 T) := hv2
      have HB2 : Hid (Below w.heap.size w w2) := hbr.trans (hw2.mono hbr.size)
      have HS2 : Hid (StrsAt w2 u8 T) := HS0.out.below hw2
      clear hv2 hw2
      go_wp2_with (go_at_call 13; go_must (refine (HL2.out _).mono ?_))
      rintro e w3 ⟨v3, n3, rfl, hv3, hw3⟩
      have HT1 : Hid (Calls Try.prog 15 #[v2, u8] w3 fun e w' => e = .returned (.bool true) ∧ ∃ n, w' = w3.drewN n) := sameTexts_true v2 u8 T w3 (HV2.out.below hw3) (HS2.out.below hw3)
      have HT2 : Hid (∀ n, Calls Try.prog 15 #[v3, u8] (w3.drewN n) fun e w' => e = .returned (.bool true) ∧ ∃ k, w' = (w3.drewN n).drewN k) := fun n => sameTexts_true v3 u8 T (w3.drewN n) (hv3.below (below_drewN w3 n)) ((HS2.out.below hw3).below (below_drewN w3 n))
      have HB3 : Hid (Below w.heap.size w w3) := HB2.out.trans (hw3.mono HB2.out.size)
      clear hv3 hw3
      go_wp2_with (go_at_call 15; go_must (refine HT1.out.mono ?_))
      rintro e w4 ⟨rfl, n4, rfl⟩
      go_wp2_with (go_at_call 15; go_must (refine (HT2.out n4).mono ?_))
      rintro e w5 ⟨rfl, n5, rfl⟩
      go_wp2
      go_ret
      exact ⟨rfl, below_draws HB3.out _⟩

theorem walk (v0 : Value) (L : List ByteArray) (ah be : ByteArray) (w : World) (hL : SliceAt w v0 1 strOne L) (ha : ah.size ≤ 140737488351232) (hbe : be.size ≤ 140737488351232) :
    Calls Try.prog 4 #[v0, .string ah, .string be] w fun e w' => e = .returned (.bool true) ∧ Below w.heap.size w w' := by
  by_cases h : L.length ≤ 30
  · exact walk_few v0 L ah be w hL h ha hbe
  · exact walk_many v0 L ah be w hL (by omega)

end Go.Proofs.Ythiihilifckapaa.Back
