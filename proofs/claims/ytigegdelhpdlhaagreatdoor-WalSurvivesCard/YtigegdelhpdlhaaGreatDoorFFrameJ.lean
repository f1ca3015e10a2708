import Derived.Test.YtigegdelhpdlhaaGreatDoorFUnfJ
import Derived.Test.YtigegdelhpdlhaaGreatDoorFRefEJ
import Derived.Test.YtigegdelhpdlhaaGreatDoorLayIJ
import Derived.Test.YtigegdelhpdlhaaGreatDoorJDiskJ
/- The program's frame of bytes. -/
namespace Go.Proofs.YtigegdelhpdlhaaGreatDoor
open Go.RowKit

theorem headB_list (b : ByteArray) : (headB b).data.toList = le4 b.size ++ b.data.toList := by
  show ((bytesOf (le4 b.size) ++ b).data).toList = _
  rw [ByteArray.data_append, Array.toList_append]
  rfl

theorem headB_of (b : ByteArray) : bytesOf (le4 b.size ++ b.data.toList) = headB b := by
  apply ByteArray.ext
  apply Array.ext'
  rw [headB_list]
  rfl

theorem frameB_list (b : ByteArray) : (frameB b).data.toList = le4 b.size ++ b.data.toList ++ le4 (crc (headB b).data.toList) := by
  show ((headB b ++ bytesOf (le4 (crc (headB b).data.toList))).data).toList = _
  rw [ByteArray.data_append, Array.toList_append, headB_list]
  rfl

theorem frameB_of (b : ByteArray) : bytesOf (le4 b.size ++ b.data.toList ++ le4 (crc (headB b).data.toList)) = frameB b := by
  apply ByteArray.ext
  apply Array.ext'
  rw [frameB_list]
  rfl

theorem le4_len (n : Nat) : (le4 n).length = 4 := rfl

set_option maxRecDepth 100000 in
set_option maxHeartbeats 1000000 in
theorem fFrame_short (b : ByteArray) (w : World) (h : b.size ≤ 65536) :
    Calls Tryz.prog 90 #[.string b] w fun e w' => e = .returned (.tuple #[.string (frameB b), .int .i64 0]) ∧ Below w.heap.size w w' := by
  obtain ⟨u, hmk, ho, hbu⟩ := made_own w w.heap.size (4 + b.size + 4) (by omega) (Nat.le_refl _)
  rw [show ((4 + b.size + 4 : Nat) : Int) = 4 + (b.size : Int) + 4 by omega] at hmk
  obtain ⟨c, hc⟩ : ∃ c, 4 + b.size + 4 = c := ⟨_, rfl⟩
  rw [hc] at hmk ho
  have HO : Hid (OwnB u w.heap.size (.slice (some ⟨w.heap.size, 0, none⟩) 0 c) []) := ho
  have h' : ¬ (65536 < (b.size : Int)) := by omega
  have hx : ((b.size : Nat) : Int) % 4294967296 = b.size := by omega
  have hz := hbu.size
  obtain ⟨L1, hL1⟩ : ∃ L, le4 b.size = L := ⟨_, rfl⟩
  obtain ⟨L2, hL2⟩ : ∃ L, L1 ++ b.data.toList = L := ⟨_, rfl⟩
  obtain ⟨k, hk⟩ : ∃ k, crc (headB b).data.toList = k := ⟨_, rfl⟩
  obtain ⟨L3, hL3⟩ : ∃ L, L2 ++ le4 k = L := ⟨_, rfl⟩
  have hk2 : k < 4294967296 := hk ▸ crc_lt _
  have l1 : L1.length = 4 := by rw [← hL1]; rfl
  have l2 : L2.length = 4 + b.size := by rw [← hL2, List.length_append, l1]; rfl
  have H2 : Hid (bytesOf L2 = headB b) := (by rw [← hL2, ← hL1, headB_of] : _ = _)
  have H3 : Hid (bytesOf L3 = frameB b) := (by rw [← hL3, ← hL2, ← hL1, ← hk, frameB_of] : _ = _)
  have HA1 : Hid (∀ w0 : World, ∀ v base, OwnB w0 base v [] → base ≤ w0.heap.size → Calls Tryz.prog 113 #[v, .int .u32 (b.size : Int)] w0 fun e w' => ∃ v, e = .returned v ∧ OwnB w' base v L1 ∧ Below base w0 w') := fun w0 v base hv hb0 => by
    have := fappendWord_any b.size base v [] w0 (by omega) (by simp) hv hb0
    rw [List.nil_append, hL1] at this
    exact this
  have HA2 : Hid (∀ w0 : World, ∀ v base, OwnB w0 base v L2 → base ≤ w0.heap.size → Calls Tryz.prog 113 #[v, .int .u32 (k : Int)] w0 fun e w' => ∃ v, e = .returned v ∧ OwnB w' base v L3 ∧ Below base w0 w') := fun w0 v base hv hb0 => by
    have := fappendWord_any k base v L2 w0 hk2 (by omega) hv hb0
    rw [hL3] at this
    exact this
  have HS : Hid (∀ w0 : World, Calls Tryz.prog 114 #[.string (headB b)] w0 fun e w' => e = .returned (.int .u32 (k : Int)) ∧ w' = w0) := fun w0 => by
    have := fSum_any (headB b) w0 (by rw [headB_size]; unfold maxLen; omega)
    rw [hk] at this
    exact this
  have HL2 : Hid (L1 ++ b.data.toList = L2) := hL2
  clear ho hk hL1 hL2 hL3 hc
  go_enter Tryz.func90, Tryz.ntmps90
  go_wp2_with (first
    | (go_at_call 113; refine (HA1.out _ _ _ HO.out (by omega)).mono ?_; rintro e w1 ⟨v1, rfl, ho1, hb1⟩; have HO1 : Hid (OwnB w1 w.heap.size v1 L1) := ho1; have hz1 := hb1.size; clear ho1)
    | (at_builtin; go_must (refine Go.Proofs.YtigegdelhpdlhaaGreatDoor.wpList_text rfl _ _ rfl w.heap.size v1 L1 w1 rfl HO1.out b rfl (by omega) (by omega) ?_)))
  rw [HL2.out]
  intro v2 w2 ho2 hb2
  have hc2 := ho2.str
  rw [H2.out] at hc2
  have HO2 : Hid (OwnB w2 w.heap.size v2 L2) := ho2
  have hz2 := hb2.size
  clear ho2
  go_wp2_with (first
    | (go_at_call 114; refine (HS.out _).mono ?_; rintro e w3 ⟨rfl, rfl⟩)
    | (go_at_call 113; refine (HA2.out _ _ _ HO2.out (by omega)).mono ?_; rintro e w4 ⟨v4, rfl, ho4, hb4⟩; have hc4 := ho4.str; rw [H3.out] at hc4; clear ho4))
  go_ret2
  exact ⟨rfl, ((hbu.trans hb1).trans hb2).trans hb4⟩

set_option maxHeartbeats 400000 in
theorem fFrame_long (b : ByteArray) (w : World) (h : 65536 < b.size) :
    Calls Tryz.prog 90 #[.string b] w fun e w' => e = .returned (.tuple #[.string .empty, .int .i64 2]) ∧ w' = w := by
  have h2 : (65536 : Int) < b.size := by omega
  go_enter Tryz.func90, Tryz.ntmps90
  go_wp2
  go_ret2
  exact ⟨rfl, rfl⟩

theorem fFrame_any (b : ByteArray) (w : World) :
    Calls Tryz.prog 90 #[.string b] w fun e w' => e = .returned (.tuple #[.string (if b.size ≤ 65536 then frameB b else .empty), .int .i64 (if b.size ≤ 65536 then 0 else 2)]) ∧ Below w.heap.size w w' := by
  by_cases h : b.size ≤ 65536
  · rw [if_pos h, if_pos h]
    exact fFrame_short b w h
  · rw [if_neg h, if_neg h]
    exact (fFrame_long b w (by omega)).mono fun e w' ⟨h1, h2⟩ => ⟨h1, h2 ▸ Below.refl _ _⟩

end Go.Proofs.YtigegdelhpdlhaaGreatDoor

/- What is found at a place where a frame stands, whole or torn. Pure. -/
namespace Go.Proofs.YtigegdelhpdlhaaGreatDoor
open Go.RowKit

theorem un4_le4 {n : Nat} (h : n < 4294967296) (r : List UInt8) : un4 (le4 n ++ r) = n := by
  show (UInt8.ofNat (n % 256)).toNat + (UInt8.ofNat (n / 256 % 256)).toNat * 256 + (UInt8.ofNat (n / 65536 % 256)).toNat * 65536 + (UInt8.ofNat (n / 16777216)).toNat * 16777216 = n
  have e1 : (UInt8.ofNat (n % 256)).toNat = n % 256 := by simp
  have e2 : (UInt8.ofNat (n / 256 % 256)).toNat = n / 256 % 256 := by simp
  have e3 : (UInt8.ofNat (n / 65536 % 256)).toNat = n / 65536 % 256 := by simp
  have e4 : (UInt8.ofNat (n / 16777216)).toNat = n / 16777216 := by simp; omega
  rw [e1, e2, e3, e4]
  omega

theorem un4_four {S : List UInt8} (h : S.length = 4) (r : List UInt8) : un4 (S ++ r) = un4 S := by
  match S, h with
  | [_, _, _, _], _ => rfl

theorem un4_inj {S T : List UInt8} (hS : S.length = 4) (hT : T.length = 4) (h : un4 S = un4 T) : S = T := by
  match S, hS, T, hT with
  | [a, b, c, d], _, [p, q, r, t], _ =>
    have h' : a.toNat + b.toNat * 256 + c.toNat * 65536 + d.toNat * 16777216 = p.toNat + q.toNat * 256 + r.toNat * 65536 + t.toNat * 16777216 := h
    have a1 := a.toNat_lt; have a2 := b.toNat_lt; have a3 := c.toNat_lt; have a4 := d.toNat_lt
    have b1 := p.toNat_lt; have b2 := q.toNat_lt; have b3 := r.toNat_lt; have b4 := t.toNat_lt
    have e1 : a.toNat = p.toNat := by omega
    have e2 : b.toNat = q.toNat := by omega
    have e3 : c.toNat = r.toNat := by omega
    have e4 : d.toNat = t.toNat := by omega
    rw [UInt8.toNat_inj.1 e1, UInt8.toNat_inj.1 e2, UInt8.toNat_inj.1 e3, UInt8.toNat_inj.1 e4]

theorem cut_mid (A B C : List UInt8) : ((A ++ B ++ C).take (A.length + B.length)).drop A.length = B := by
  rw [List.take_append_of_le_length (by simp), List.take_of_length_le (by simp), List.drop_left]

theorem ext_of (b : ByteArray) (i j : Nat) (l : List UInt8) (h : (b.data.toList.take j).drop i = l) : b.extract i j = bytesOf l := by
  apply ByteArray.ext
  apply Array.ext'
  rw [extract_list, h]
  rfl

/-- a frame's parts at a place -/
theorem found_at (b : ByteArray) (A H B S Z : List UInt8) (hb : b.data.toList = A ++ (H ++ B ++ S) ++ Z) (hH : H.length = 4) (hS : S.length = 4) (hn : un4 H = B.length) (h16 : B.length ≤ 65536) :
    found b A.length = if crc (H ++ B) = un4 S then ⟨bytesOf B, (A.length : Int) + 8 + B.length, 0, 0⟩ else ⟨.empty, 0, A.length, 60⟩ := by
  have hsz : b.size = A.length + (4 + B.length + 4) + Z.length := by
    have h : b.data.toList.length = b.size := rfl
    rw [← h, hb]
    simp [hH, hS]
    omega
  have h0 : ¬ ((A.length : Int) < 0 ∨ (b.size : Int) < A.length) := by omega
  have ht : (A.length : Int).toNat = A.length := by omega
  have e1 : (b.data.toList.take (A.length + 4)).drop A.length = H := by
    rw [hb, ← hH, show A ++ (H ++ B ++ S) ++ Z = A ++ H ++ (B ++ S ++ Z) by simp]
    exact cut_mid A H _
  have e2 : (b.data.toList.take (A.length + 4 + B.length)).drop A.length = H ++ B := by
    rw [hb, show A.length + 4 + B.length = A.length + (H ++ B).length by simp [hH]; omega, show A ++ (H ++ B ++ S) ++ Z = A ++ (H ++ B) ++ (S ++ Z) by simp]
    exact cut_mid A (H ++ B) _
  have e3 : (b.data.toList.take (A.length + 8 + B.length)).drop (A.length + 4 + B.length) = S := by
    rw [hb, show A.length + 4 + B.length = (A ++ (H ++ B)).length by simp [hH]; omega, show A.length + 8 + B.length = (A ++ (H ++ B)).length + S.length by simp [hH, hS]; omega, show A ++ (H ++ B ++ S) ++ Z = (A ++ (H ++ B)) ++ S ++ Z by simp]
    exact cut_mid (A ++ (H ++ B)) S _
  have e4 : (b.data.toList.take (A.length + 4 + B.length)).drop (A.length + 4) = B := by
    rw [hb, show A.length + 4 = (A ++ H).length by simp [hH], show A ++ (H ++ B ++ S) ++ Z = (A ++ H) ++ B ++ (S ++ Z) by simp]
    exact cut_mid (A ++ H) B _
  have hl : lenAt b A.length = B.length := by unfold lenAt; rw [extract_list, e1, hn]
  have hs : sumAt b A.length B.length = crc (H ++ B) := by unfold sumAt; rw [extract_list, e2]
  have hw : wasAt b A.length B.length = un4 S := by unfold wasAt; rw [extract_list, e3]
  unfold found
  rw [if_neg h0, ht, if_neg (by omega), hl, if_neg (by omega), if_neg (by omega), hs, hw, ext_of b _ _ B e4]
  by_cases h : crc (H ++ B) = un4 S
  · rw [if_pos h, if_neg (fun e => e h)]
  · rw [if_neg h, if_pos h]

theorem frameB_parts (b : ByteArray) : (frameB b).data.toList = le4 b.size ++ b.data.toList ++ le4 (crc (le4 b.size ++ b.data.toList)) := by
  rw [frameB_list, headB_list]

theorem frameB_size (b : ByteArray) : (frameB b).size = b.size + 8 := by
  have h : (frameB b).data.toList.length = (frameB b).size := rfl
  have h2 : b.data.toList.length = b.size := rfl
  rw [← h, frameB_parts, List.length_append, List.length_append, le4_len, le4_len, h2]
  omega

theorem bytesOf_self (b : ByteArray) : bytesOf b.data.toList = b := by cases b; rfl

theorem found_frame (x b : ByteArray) (A Z : List UInt8) (hx : x.data.toList = A ++ (frameB b).data.toList ++ Z) (h : b.size ≤ 65536) : found x A.length = ⟨b, (A.length : Int) + 8 + b.size, 0, 0⟩ := by
  rw [frameB_parts] at hx
  have hc := crc_lt (le4 b.size ++ b.data.toList)
  have e1 : un4 (le4 b.size) = b.data.toList.length := by
    have := un4_le4 (n := b.size) (by omega) []
    rw [List.append_nil] at this
    exact this
  have e2 : un4 (le4 (crc (le4 b.size ++ b.data.toList))) = crc (le4 b.size ++ b.data.toList) := by
    have := un4_le4 hc []
    rw [List.append_nil] at this
    exact this
  rw [found_at x A (le4 b.size) b.data.toList (le4 (crc (le4 b.size ++ b.data.toList))) Z hx rfl rfl e1 h, if_pos e2.symm, bytesOf_self]
  rfl

theorem found_short (b : ByteArray) (c : Nat) (hc : c < b.size + 8) (h : b.size ≤ 65536) : found ((frameB b).extract 0 c) 0 = ⟨.empty, 0, 0, 61⟩ := by
  have hs : ((frameB b).extract 0 c).size = c := by rw [ByteArray.size_extract, frameB_size]; omega
  obtain ⟨x, hx⟩ : ∃ x, (frameB b).extract 0 c = x := ⟨_, rfl⟩
  rw [hx] at hs
  rw [hx]
  unfold found
  rw [if_neg (by omega), show (0 : Int).toNat = 0 from rfl]
  by_cases h4 : x.size < 0 + 4
  · rw [if_pos h4]
  rw [if_neg h4]
  have hl : lenAt x 0 = b.size := by
    unfold lenAt
    rw [extract_list, ← hx, extract_list, frameB_parts, List.drop_zero, List.drop_zero, List.take_take, List.append_assoc, show min (0 + 4) c = (le4 b.size).length by rw [le4_len]; omega, List.take_left]
    have := un4_le4 (n := b.size) (by omega) []
    rw [List.append_nil] at this
    exact this
  rw [hl, if_neg (by omega), if_pos (by omega)]

theorem found_torn (x b : ByteArray) (i : Nat) (c : UInt8) (hi : 4 ≤ i) (hi2 : i < b.size + 8) (h : b.size ≤ 65536) (hx : x.data.toList = (frameB b).data.toList.set i c) (hc : ∀ d, (frameB b).data.toList[i]? = some d → c ≠ d) :
    found x 0 = ⟨.empty, 0, 0, 60⟩ := by
  rw [frameB_parts] at hx hc
  have hbl : b.data.toList.length = b.size := rfl
  obtain ⟨k, hk⟩ : ∃ k, crc (le4 b.size ++ b.data.toList) = k := ⟨_, rfl⟩
  have hk2 : k < 4294967296 := hk ▸ crc_lt _
  rw [hk] at hx hc
  have e1 : un4 (le4 b.size) = b.size := by
    have := un4_le4 (n := b.size) (by omega) []
    rw [List.append_nil] at this
    exact this
  have e2 : un4 (le4 k) = k := by
    have := un4_le4 hk2 []
    rw [List.append_nil] at this
    exact this
  by_cases h1 : i < 4 + b.size
  · have e3 : (le4 b.size ++ b.data.toList ++ le4 k).set i c = [] ++ (le4 b.size ++ b.data.toList.set (i - 4) c ++ le4 k) ++ [] := by
      rw [List.set_append_left _ _ (by rw [List.length_append, le4_len]; omega), List.set_append_right _ _ (by rw [le4_len]; omega), le4_len]
      simp
    have hj : i - 4 < b.data.toList.length := by omega
    have hf := found_at x [] (le4 b.size) (b.data.toList.set (i - 4) c) (le4 k) [] (hx.trans e3) rfl rfl (by rw [e1, List.length_set, hbl]) (by rw [List.length_set]; omega)
    refine hf.trans (if_neg ?_)
    rw [e2, ← hk]
    have hd : b.data.toList[i - 4] ≠ c := by
      refine fun e => hc _ ?_ e.symm
      rw [List.getElem?_append_left (by rw [List.length_append, le4_len]; omega), List.getElem?_append_right (by rw [le4_len]; omega), le4_len, List.getElem?_eq_getElem hj]
    have s1 : b.data.toList = b.data.toList.take (i - 4) ++ b.data.toList[i - 4] :: b.data.toList.drop (i - 4 + 1) := by rw [List.getElem_cons_drop hj, List.take_append_drop]
    have s2 : b.data.toList.set (i - 4) c = b.data.toList.take (i - 4) ++ c :: b.data.toList.drop (i - 4 + 1) := by rw [List.set_eq_take_append_cons_drop, if_pos hj]
    have key := crc_torn (le4 b.size ++ b.data.toList.take (i - 4)) (b.data.toList.drop (i - 4 + 1)) c b.data.toList[i - 4] (Ne.symm hd)
    intro e
    apply key
    rw [List.append_assoc, List.append_assoc, ← s2, ← s1]
    exact e
  · have e3 : (le4 b.size ++ b.data.toList ++ le4 k).set i c = [] ++ (le4 b.size ++ b.data.toList ++ (le4 k).set (i - (4 + b.size)) c) ++ [] := by
      rw [List.set_append_right _ _ (by rw [List.length_append, le4_len]; omega), List.length_append, le4_len, hbl]
      simp
    have hj : i - (4 + b.size) < (le4 k).length := by rw [le4_len]; omega
    have hf := found_at x [] (le4 b.size) b.data.toList ((le4 k).set (i - (4 + b.size)) c) [] (hx.trans e3) rfl (by rw [List.length_set]; rfl) e1 h
    refine hf.trans (if_neg ?_)
    rw [hk]
    intro e
    have e5 : le4 k = (le4 k).set (i - (4 + b.size)) c := un4_inj rfl (by rw [List.length_set]; rfl) (e2.trans e)
    have h6 : (le4 k)[i - (4 + b.size)]? = some c := by
      have h7 := congrArg (fun l : List UInt8 => l[i - (4 + b.size)]?) e5
      exact h7.trans (List.getElem?_set_self hj)
    exact hc c (by rw [List.getElem?_append_right (by rw [List.length_append, le4_len]; omega), List.length_append, le4_len, hbl]; exact h6) rfl

end Go.Proofs.YtigegdelhpdlhaaGreatDoor

/- Layer 18: a file's frames: whole ones, and what a crash has torn behind them. -/
namespace Go.Proofs.YtigegdelhpdlhaaGreatDoor
open Go.RowKit QP

/-- frames, one behind the other -/
def flatF (Bs : List ByteArray) : List UInt8 := (Bs.map fun b => (frameB b).data.toList).flatten
/-- the beginning of a frame, not whole -/
def TornF (T : List UInt8) : Prop := ∃ (b : ByteArray) (c : Nat), b.size ≤ 65536 ∧ c < b.size + 8 ∧ T = (frameB b).data.toList.take c
theorem torn_nil : TornF [] := ⟨⟨#[]⟩, 0, by decide, by decide, rfl⟩
theorem flatF_cons (b : ByteArray) (Bs : List ByteArray) : flatF (b :: Bs) = (frameB b).data.toList ++ flatF Bs := rfl
theorem flatF_append (As Bs : List ByteArray) : flatF (As ++ Bs) = flatF As ++ flatF Bs := by unfold flatF; rw [List.map_append, List.flatten_append]
theorem frameB_len (b : ByteArray) : (frameB b).data.toList.length = b.size + 8 := by
  have h : (frameB b).data.toList.length = (frameB b).size := rfl
  rw [h, frameB_size]

theorem found_end (x : ByteArray) (A T : List UInt8) (hx : x.data.toList = A ++ T) (ht : TornF T) : (found x A.length).code = 61 := by
  obtain ⟨b, c, hb, hc, rfl⟩ := ht
  have hlen := congrArg List.length hx
  rw [List.length_append, List.length_take, frameB_len] at hlen
  have hxs : x.data.toList.length = x.size := rfl
  rw [hxs] at hlen
  unfold found
  rw [if_neg (by omega), show ((A.length : Int)).toNat = A.length by omega]
  by_cases h4 : x.size < A.length + 4
  · rw [if_pos h4]
  rw [if_neg h4]
  have hl : lenAt x A.length = b.size := by
    unfold lenAt
    rw [extract_list, hx, show A.length + 4 = A.length + 4 from rfl, List.take_append, List.drop_append]
    have e1 : (A.take (A.length + 4)).drop A.length = [] := by rw [List.take_of_length_le (by omega), List.drop_length]
    have e2 : (A.take (A.length + 4)).length = A.length := by rw [List.length_take]; omega
    rw [e1, e2, Nat.sub_self, List.drop_zero, List.nil_append, show A.length + 4 - A.length = 4 by omega, List.take_take, show min 4 c = 4 by omega, frameB_parts, List.append_assoc, show (4 : Nat) = (le4 b.size).length by rw [le4_len], List.take_left]
    have := un4_le4 (n := b.size) (by omega) []
    rw [List.append_nil] at this
    exact this
  rw [hl, if_neg (by omega), if_pos (by omega)]

theorem frames_of (x : ByteArray) (T : List UInt8) (ht : TornF T) : ∀ (Bs : List ByteArray) (A : List UInt8), (∀ b ∈ Bs, b.size ≤ 65536) → x.data.toList = A ++ flatF Bs ++ T → framesAt x A.length = (Bs.map (fun b => b.data.toList), A.length + (flatF Bs).length)
  | [], A, _, hx => by
    have h : (found x A.length).code = 61 := found_end x A T (by rw [hx]; simp [flatF]) ht
    rw [framesAt_end (by rw [h]; decide)]
    rfl
  | b :: Bs, A, hs, hx => by
    have hb := hs b (List.mem_cons_self ..)
    rw [flatF_cons] at hx
    have hf := found_frame x b A (flatF Bs ++ T) (by rw [hx]; simp only [List.append_assoc]) hb
    have h0 : (found x A.length).code = 0 := by rw [hf]
    have hk : (found x A.length).stop = ((A.length + 8 + b.size : Nat) : Int) := by rw [hf]; show (A.length : Int) + 8 + b.size = _; omega
    rw [framesAt_next h0 hk, hf]
    have hl : (A ++ (frameB b).data.toList).length = A.length + 8 + b.size := by rw [List.length_append, frameB_len]; omega
    have ih := frames_of x T ht Bs (A ++ (frameB b).data.toList) (fun c hc => hs c (List.mem_cons_of_mem _ hc)) (by rw [hx]; simp only [List.append_assoc])
    rw [hl] at ih
    rw [ih, flatF_cons, List.length_append, frameB_len]
    simp only [List.map_cons, Prod.mk.injEq, true_and]
    omega
theorem frames_is (x : ByteArray) (Bs : List ByteArray) (T : List UInt8) (ht : TornF T) (hs : ∀ b ∈ Bs, b.size ≤ 65536) (hx : x.data.toList = flatF Bs ++ T) : frames x = (Bs.map (fun b => b.data.toList), (flatF Bs).length) ∧ (found x ((flatF Bs).length : Nat)).code = 61 := by
  refine ⟨?_, found_end x (flatF Bs) T hx ht⟩
  have := frames_of x T ht Bs [] hs (by rw [hx]; rfl)
  rw [List.length_nil, Nat.zero_add] at this
  exact this

set_option maxRecDepth 100000 in
set_option maxHeartbeats 1000000 in
theorem jframes_any (d : Nat) (s : Dk.Dsk) (k : ByteArray) (w : World) (F : Nat → Prop) (h : DiskI d s w F) (hk : k.size ≤ maxLen) (Bs : List ByteArray) (T : List UInt8) (ht : TornF T) (hs : ∀ b ∈ Bs, b.size ≤ 65536) (hD : Dk.readV s k.data.toList = flatF Bs ++ T) (hsz : (flatF Bs ++ T).length ≤ 1000000) :
    Calls Tryz.prog 99 #[.pointer (some ⟨d, 0, none⟩), .string k] w fun e w' => ∃ v, e = .returned v ∧ Hid (w'.ownsRow w.heap.size 9 1 v Bs.length (Bs.map Value.string)) ∧ Hid (Below w.heap.size w w') := by
  have hR : Hid (Calls Tryz.prog 22 #[.pointer (some ⟨d, 0, none⟩), .string k] w fun e w' => e = .returned (.tuple #[.string ⟨(flatF Bs ++ T).toArray⟩, .int .i64 (Dk.findE s k.data.toList)]) ∧ w = w') := by
    have := dread_i k h hk
    rw [hD] at this
    exact this.mono fun _ _ h => ⟨h.1, h.2.symm⟩
  obtain ⟨x, hx⟩ : ∃ x : ByteArray, (⟨(flatF Bs ++ T).toArray⟩ : ByteArray) = x := ⟨_, rfl⟩
  have hxl : x.data.toList = flatF Bs ++ T := by rw [← hx]
  have hxs : x.size ≤ 1000000 := by
    have : x.data.toList.length = x.size := rfl
    rw [← this, hxl]
    exact hsz
  obtain ⟨f1, f2⟩ := frames_is x Bs T ht hs hxl
  have hF : Hid (∀ u, Calls Tryz.prog 120 #[.string x] u fun e w' => ∃ v, e = .returned (.tuple #[v, .int .i64 ((flatF Bs).length : Int)]) ∧ Hid (w'.ownsRow u.heap.size 9 1 v Bs.length (Bs.map Value.string)) ∧ Hid (Below u.heap.size u w')) := fun u => by
    have := fFrames_any x u (by omega)
    rw [f1] at this
    refine this.mono fun e w' ⟨v, e1, e2, e3⟩ => ⟨v, e1, ?_, e3⟩
    have em : (Bs.map fun b => b.data.toList).map Go.Proofs.encStr = Bs.map Value.string := by
      rw [List.map_map]
      exact List.map_congr_left fun b _ => enc_self b
    rw [em, List.length_map] at e2
    exact e2
  have hU : Hid (∀ u, Calls Tryz.prog 121 #[.string x, .int .i64 ((flatF Bs).length : Int)] u fun e w' => ∃ a b c, e = .returned (.tuple #[.string a, .int .i64 b, .agg #[.int .i64 c, .int .i64 61]]) ∧ Hid (Below u.heap.size u w')) := fun u => by
    refine (fUnframe_any x _ u (by omega)).mono fun e w' ⟨e1, e2⟩ => ⟨(found x ((flatF Bs).length : Nat)).body, (found x ((flatF Bs).length : Nat)).stop, (found x ((flatF Bs).length : Nat)).place, ?_, e2⟩
    rw [e1]
    unfold Found.en
    rw [f2]
  have HRf : Hid (∀ u, Calls Tryz.prog 55 #[.bool false, .int .i64 190] u fun r w' => r = .returned (.tuple #[]) ∧ u = w') := fun u => (refuse_no 190 u).mono fun _ _ h => ⟨h.1, h.2.symm⟩
  obtain ⟨q, hq⟩ : ∃ q, (flatF Bs).length = q := ⟨_, rfl⟩
  rw [hx] at hR
  rw [hq] at hF hU
  clear hx hxl hxs f1 f2 hD h hq
  go_enter Tryz.func99, Tryz.ntmps99
  go_wp2_with (first
    | (go_at_call 22; (with_reducible refine hR.out.mono ?_); rintro e w1 ⟨rfl, rfl⟩)
    | (go_at_call 120; (with_reducible refine (hF.out _).mono ?_); rintro e w2 ⟨v, rfl, HO, HB⟩)
    | (go_at_call 121; (with_reducible refine (hU.out _).mono ?_); rintro e w3 ⟨a, b, c, rfl, HB3⟩)
    | (go_at_call 55; (with_reducible refine (HRf.out _).mono ?_); rintro e w4 ⟨rfl, rfl⟩))
  go_ret
  have hbA := (Below.refl w3.heap.size w3).alloc (Nat.le_refl _) (.cells #[.int .i64 c, .int .i64 61] 176)
  have hB3 := HB.out.trans (HB3.out.mono HB.out.size)
  exact ⟨v, rfl, row_kept (row_kept HO.out HB3.out) hbA, hB3.trans (hbA.mono hB3.size)⟩
end Go.Proofs.YtigegdelhpdlhaaGreatDoor
