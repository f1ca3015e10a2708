/- The program's write: a schema's bytes. -/
import Derived.Test.YtnboanlhdllhnaaGreatZAskJ
namespace Go.Proofs.YtnboanlhdllhnaaGreat
open Go.RowKit

set_option maxHeartbeats 400000 in
theorem hasPrefix_yes (s p : ByteArray) (w : World) (h1 : p.size ≤ s.size) (_h2 : s.size ≤ 1000000) (he : (s.extract 0 p.size).toList = p.toList) :
    Calls Tryz.prog 94 #[.string s, .string p] w fun e w' => e = .returned (.bool true) ∧ w' = w := by
  have h1' : (p.size : Int) ≤ (s.size : Int) := by omega
  have HE : (((s.extract 0 p.size).toList == p.toList)) = true := by rw [he]; exact beq_self_eq_true _
  go_enter Tryz.func94, Tryz.ntmps94
  go_wp2
  go_ret
  exact ⟨rfl, rfl⟩

set_option maxHeartbeats 400000 in
theorem trimPrefix_yes (s p : ByteArray) (w : World) (h1 : p.size ≤ s.size) (h2 : s.size ≤ 1000000) (he : (s.extract 0 p.size).toList = p.toList) :
    Calls Tryz.prog 71 #[.string s, .string p] w fun e w' => e = .returned (.string (s.extract p.size s.size)) ∧ w' = w := by
  have h1' : (p.size : Int) ≤ (s.size : Int) := by omega
  have HH : Hid (Calls Tryz.prog 94 #[.string s, .string p] w fun e w' => e = .returned (.bool true) ∧ w' = w) := hasPrefix_yes s p w h1 h2 he
  clear he
  go_enter Tryz.func71, Tryz.ntmps71
  go_wp2_with (go_at_call 94; go_must (refine HH.out.mono ?_; rintro e w' ⟨rfl, rfl⟩))
  go_ret
  exact ⟨rfl, rfl⟩

set_option maxHeartbeats 400000 in
theorem sTrimPrefix_yes (s p : ByteArray) (w : World) (h1 : p.size ≤ s.size) (h2 : s.size ≤ 1000000) (he : (s.extract 0 p.size).toList = p.toList) :
    Calls Tryz.prog 48 #[.string s, .string p] w fun e w' => e = .returned (.string (s.extract p.size s.size)) ∧ w' = w := by
  have HH : Hid (Calls Tryz.prog 71 #[.string s, .string p] w fun e w' => e = .returned (.string (s.extract p.size s.size)) ∧ w' = w) := trimPrefix_yes s p w h1 h2 he
  clear he
  go_enter Tryz.func48, Tryz.ntmps48
  go_wp2_with (go_at_call 71; go_must (refine HH.out.mono ?_; rintro e w' ⟨rfl, rfl⟩))
  go_ret
  exact ⟨rfl, rfl⟩

/-- what stands ahead of a schema's bytes in a request -/
def asking : ByteArray := ⟨#[5, 0, 0, 0, 0, 0, 0, 0, 0, 0, 0, 0, 0, 0, 0, 0]⟩
theorem asking_list : le8 5 ++ le8 0 = asking.data.toList := by decide
theorem ext_list (l : List UInt8) (i j : Nat) : (bytesOf l).extract i j = bytesOf ((l.drop i).take (j - i)) := by
  unfold bytesOf
  apply ByteArray.ext
  simp [ByteArray.data_extract]

theorem asking_pre (B : List UInt8) : ((bytesOf (asking.data.toList ++ B)).extract 0 asking.size).toList = asking.toList := by
  rw [ext_list]
  have h : asking.size = 16 := rfl
  rw [h, List.drop_zero, List.take_left' (by rfl)]
  rw [Go.ByteArray.toList_eq, Go.ByteArray.toList_eq, bytesOf_list]
theorem asking_rest (B : List UInt8) : (bytesOf (asking.data.toList ++ B)).extract asking.size (bytesOf (asking.data.toList ++ B)).size = bytesOf B := by
  rw [ext_list]
  have h : asking.size = 16 := rfl
  rw [h, List.drop_left' (by rfl), bytesOf_size, List.length_append, List.take_of_length_le (by rw [size_list, h]; omega)]

set_option maxRecDepth 100000 in
set_option maxHeartbeats 1000000 in
theorem write_any (w w0 : World) (cv iv : Value) (T : Tab) (hb : Below w0.heap.size w0 w) (h0 : TabV w0 cv iv T) (hk : MayT T) :
    Calls Tryz.prog 31 #[tabVal cv iv T] w fun e w' => e = .returned (.string (bytesOf (tabB T))) ∧ Below w.heap.size w w' := by
  have hfew := hk.few.1
  have HA : Hid (∀ u, Below w0.heap.size w0 u → Calls Tryz.prog 47 #[reqVal 5 (.string T.nm) cv (.int .i64 T.key) iv] u fun e w' => e = .returned (.tuple #[.string (bytesOf (asking.data.toList ++ tabB T)), .int .i64 0]) ∧ Below u.heap.size u w') := fun u hu => by
    have := ask_any u w0 cv iv T hu h0 hk
    rw [asking_list] at this
    exact this
  have HT : Hid (∀ u, Calls Tryz.prog 48 #[.string (bytesOf (asking.data.toList ++ tabB T)), .string ⟨#[5, 0, 0, 0, 0, 0, 0, 0, 0, 0, 0, 0, 0, 0, 0, 0]⟩] u fun e w' => e = .returned (.string (bytesOf (tabB T))) ∧ u = w') := fun u => by
    have := sTrimPrefix_yes (bytesOf (asking.data.toList ++ tabB T)) asking u (by rw [bytesOf_size, List.length_append, size_list]; omega) (by rw [bytesOf_size, List.length_append, size_list]; have : asking.size = 16 := rfl; omega) (asking_pre _)
    rw [asking_rest] at this
    exact this.mono fun e w' ⟨e1, e2⟩ => ⟨e1, e2.symm⟩
  obtain ⟨g1, X', g2, g3, g4⟩ := h0
  obtain ⟨ca, cc, rfl, s1, s2⟩ := slice_shape g1
  obtain ⟨ia, ic, rfl, t1, t2⟩ := slice_shape g2
  unfold tabVal
  obtain ⟨N, hN⟩ : ∃ N, T.co.length = N := ⟨_, rfl⟩
  obtain ⟨M, hM⟩ : ∃ M, X'.length = M := ⟨_, rfl⟩
  obtain ⟨key, hkey⟩ : ∃ key, T.key = key := ⟨_, rfl⟩
  obtain ⟨nm, hnm⟩ : ∃ nm, T.nm = nm := ⟨_, rfl⟩
  obtain ⟨s, hs⟩ : ∃ s, bytesOf (asking.data.toList ++ tabB T) = s := ⟨_, rfl⟩
  obtain ⟨r, hr⟩ : ∃ r, bytesOf (tabB T) = r := ⟨_, rfl⟩
  rw [hs] at HA HT
  rw [hr] at HT ⊢
  rw [hN, hM, hkey, hnm] at HA
  rw [hN, hM, hkey, hnm]
  have HW : Hid (∀ o : Obj, Below w0.heap.size w0 (w.alloc o)) := fun o => hb.trans (((Below.refl _ w).alloc (Nat.le_refl _) o).mono hb.size)
  clear g1 g2 g3 g4 s1 t1 hN hM hkey hnm hs hr hb hk hfew
  go_enter Tryz.func31, Tryz.ntmps31
  go_wp2_with (first
    | (go_at_call 47; go_must (refine (HA.out _ (HW.out _)).mono ?_; rintro e w1 ⟨rfl, hb1⟩))
    | (go_at_call 48; go_must (refine (HT.out _).mono ?_; rintro e w2 ⟨rfl, rfl⟩)))
  go_ret
  refine ⟨rfl, Below.trans ((Below.refl _ w).alloc (Nat.le_refl _) _) (hb1.mono ?_)⟩
  simp

end Go.Proofs.YtnboanlhdllhnaaGreat
