/- ShaKeys: the law's walk. -/
import Derived.Test.YtfbimjhhbddfjaaDoorQKit
namespace Go.Proofs.YtfbimjhhbddfjaaDoor
open Go.RowKit QP
namespace KeysL

theorem flat_zero : ∀ r : Nat, flat (enK .u8) (List.replicate r 0) = List.replicate r (Value.int .u8 0)
  | 0 => rfl
  | r + 1 => by rw [List.replicate_succ, List.replicate_succ, flat_cons, flat_zero r]; rfl
theorem made_zero (v : Value) (r : Nat) : (madeCells #[v] r).toList = List.replicate r v := by
  unfold madeCells
  rw [Array.toList_map]
  apply List.ext_getElem
  · simp
  · intro i h1 h2
    simp [Nat.mod_one]
theorem make_r (r : Nat) (hr : r ≤ 1000) : ∃ C : Array Value, C.toList = flat (enK .u8) (List.replicate r 0) ∧ ∀ w : World, (Instr.makeSlice 35 (.int .i64 (r : Int)) (.int .i64 (r : Int))).run Tryd.prog w = .ok (.slice (some ⟨w.heap.size, 0, none⟩) r r) (w.alloc (.cells C 5)) := by
  obtain ⟨i0, hi, hz0, hz1, hz2⟩ := info_parts okU8.info
  refine ⟨madeCells (Value.int .u8 0).cells ((r : Int).toNat * i0.size), ?_, fun W => ?_⟩
  · rw [hz1, flat_zero]
    have e : ((r : Int).toNat * 1) = r := by omega
    rw [e]
    exact made_zero _ r
  · have h := run_make (P := Tryd.prog) W 35 5 i0 (.int .u8 0) Tryd.underlying35 hi hz0 .i64 .i64 (r : Int) (r : Int) (by omega) (by omega) (by rw [hz2]; omega) (by omega)
    simpa using h

theorem fill_more (k : List Nat) (r y : Nat) : fill (k ++ List.replicate r 0) y = fill k y := by
  unfold fill
  refine List.map_congr_left fun i _ => ?_
  congr 1
  rw [List.getD_eq_getElem?_getD, List.getD_eq_getElem?_getD]
  rcases Nat.lt_or_ge i k.length with h | h
  · rw [List.getElem?_append_left h]
  · rw [List.getElem?_append_right h, List.getElem?_eq_none h]
    rw [List.getElem?_replicate]
    split <;> rfl
theorem mac_long (k m : List Nat) (h : 64 < k.length) : mac (dig k) m = mac k m := by
  have e1 : key0 k = dig k := by unfold key0; rw [if_pos h]
  have e2 : key0 (dig k) = dig k := by unfold key0; rw [if_neg (by rw [dig_length]; omega)]
  unfold mac
  rw [e1, e2]
theorem mac_more (k m : List Nat) (r : Nat) (h : k.length + r ≤ 64) : mac (k ++ List.replicate r 0) m = mac k m := by
  have e1 : key0 k = k := by unfold key0; rw [if_neg (by omega)]
  have e2 : key0 (k ++ List.replicate r 0) = k ++ List.replicate r 0 := by unfold key0; rw [if_neg (by rw [List.length_append, List.length_replicate]; omega)]
  unfold mac
  rw [e1, e2, fill_more, fill_more]

set_option maxRecDepth 100000 in
set_option maxHeartbeats 1000000 in
theorem walk (T : Kit) (k b : ByteArray) (nn : Int) (w : World) (hw : T.Ok w) : Calls Tryd.prog 7 #[.string k, .string b, .int .i64 nn] w fun e w' => e = .returned (.bool true) ∧ Below w.heap.size w w' := by
  have HW : Hid (Calls Tryd.prog 8 #[] w fun e w' => e = .returned (.bool true) ∧ Below w.heap.size w w') := works_any T w hw
  by_cases hk : 20000 < k.size
  · have d1 : decide ((20000 : Int) < (k.size : Int)) = true := decide_eq_true (by omega)
    go_enter Tryd.func7, Tryd.ntmps7
    go_wp2_with fail
    refine HW.out.mono ?_
    rintro y w1 ⟨rfl, hb1⟩
    go_wp2_with fail
    go_ret
    exact ⟨rfl, hb1⟩
  have d1 : decide ((20000 : Int) < (k.size : Int)) = false := decide_eq_false (by omega)
  by_cases hb : 20000 < b.size
  · have d2 : decide ((20000 : Int) < (b.size : Int)) = true := decide_eq_true (by omega)
    go_enter Tryd.func7, Tryd.ntmps7
    go_wp2_with fail
    refine HW.out.mono ?_
    rintro y w1 ⟨rfl, hb1⟩
    go_wp2_with fail
    go_ret
    exact ⟨rfl, hb1⟩
  have d2 : decide ((20000 : Int) < (b.size : Int)) = false := decide_eq_false (by omega)
  obtain ⟨X, hX⟩ : ∃ X, ofN (mac (nb k) (nb b)) = X := ⟨_, rfl⟩
  have C1 : Hid (∀ u, Below w.heap.size w u → Calls Tryd.prog 11 #[.string k, .string b] u fun e w' => e = .returned (.string X) ∧ Below w.heap.size w w') := fun u hu => by
    refine (T.mac k b u (T.ok hw hu) (by omega) (by omega)).mono fun e w' h => ?_
    unfold SumR at h
    rw [hX] at h
    exact ⟨h.1, hu.trans (h.2.mono hu.size)⟩
  by_cases hl : 64 < k.size
  · have hlI : (64 : Int) < (k.size : Int) := by omega
    obtain ⟨D, hD⟩ : ∃ X, ofN (dig (nb k)) = X := ⟨_, rfl⟩
    have C2 : Hid (∀ u, Below w.heap.size w u → Calls Tryd.prog 9 #[.string k] u fun e w' => e = .returned (.string D) ∧ Below w.heap.size w w') := fun u hu => by
      refine (T.sum k u (T.ok hw hu) (by omega)).mono fun e w' h => ?_
      unfold SumR at h
      rw [hD] at h
      exact ⟨h.1, hu.trans (h.2.mono hu.size)⟩
    have hDs : D.size = 32 := by rw [← hD, ofN_size, dig_length]
    have hDm : ofN (mac (nb D) (nb b)) = X := by
      rw [← hD, nb_ofN (dig_bytes _), mac_long _ _ (by rw [nb_length]; exact hl), hX]
    have C3 : Hid (∀ u, Below w.heap.size w u → Calls Tryd.prog 11 #[.string D, .string b] u fun e w' => e = .returned (.string X) ∧ Below w.heap.size w w') := fun u hu => by
      refine (T.mac D b u (T.ok hw hu) (by omega) (by omega)).mono fun e w' h => ?_
      unfold SumR at h
      rw [hDm] at h
      exact ⟨h.1, hu.trans (h.2.mono hu.size)⟩
    clear hX hD hDm hDs
    go_enter Tryd.func7, Tryd.ntmps7
    go_wp2_with fail
    refine HW.out.mono ?_
    rintro y w1 ⟨rfl, hb1⟩
    go_wp2_with fail
    refine (C1.out _ hb1).mono ?_
    rintro y w2 ⟨rfl, hb2⟩
    go_wp2_with fail
    refine (C2.out _ hb2).mono ?_
    rintro y w3 ⟨rfl, hb3⟩
    go_wp2_with fail
    refine (C3.out _ hb3).mono ?_
    rintro y w4 ⟨rfl, hb4⟩
    go_wp2_with fail
    go_ret
    exact ⟨rfl, hb4⟩
  · have hlI : ¬ (64 : Int) < (k.size : Int) := by omega
    obtain ⟨U, hU⟩ : ∃ U : Nat, IntKind.u64.wrap nn = (U : Int) := ⟨(IntKind.u64.wrap nn).toNat, by
      have : 0 ≤ IntKind.u64.wrap nn := by simp [IntKind.wrap, IntKind.bits, IntKind.signed]; omega
      omega⟩
    obtain ⟨d, hd⟩ : ∃ d : Nat, 65 - k.size = d := ⟨_, rfl⟩
    have hd0 : 0 < d := by omega
    have hdI : (65 : Int) - (k.size : Int) = (d : Int) := by omega
    have wd : IntKind.i64.wrap (d : Int) = (d : Int) := wrapI (by omega) (by omega)
    have wd2 : IntKind.u64.wrap (d : Int) = (d : Int) := wrapU (by omega) (by omega)
    have hdz : ¬ (d : Int) = 0 := by omega
    obtain ⟨r, hr⟩ : ∃ r, U % d = r := ⟨_, rfl⟩
    have hrd : r < d := by rw [← hr]; exact Nat.mod_lt _ hd0
    have hrI : (U : Int) % (d : Int) = (r : Int) := by rw [← hr]; simp
    have hrT : (U : Int).tmod (d : Int) = (r : Int) := by rw [Int.tmod_eq_emod_of_nonneg (by omega)]; exact hrI
    have wr0 : IntKind.u64.wrap (r : Int) = (r : Int) := wrapU (by omega) (by omega)
    have wr1 : IntKind.i64.wrap (r : Int) = (r : Int) := wrapI (by omega) (by omega)
    obtain ⟨C, hC, hmk⟩ := make_r r (by omega)
    obtain ⟨Z, hZ⟩ : ∃ Z, ofN (List.replicate r 0) = Z := ⟨_, rfl⟩
    have hZs : Z.size = r := by rw [← hZ, ofN_size, List.length_replicate]
    have hcv : ∀ u : World, (convert 35 9 (.slice (some ⟨u.heap.size, 0, none⟩) r r)).run Tryd.prog (u.alloc (.cells C 5)) = .ok (.string Z) (u.alloc (.cells C 5)) := fun u => by
      have h := str_row (c := r) (RowK.new u .u8 5 _ C hC) (zeros_bytes r) (List.length_replicate ..)
      rw [hZ] at h
      exact h
    have hm : ofN (mac (nb (k ++ Z)) (nb b)) = X := by
      rw [nb_append, ← hZ, nb_ofN (zeros_bytes r), mac_more _ _ _ (by rw [nb_length]; omega), hX]
    have C3 : Hid (∀ u, Below w.heap.size w u → Calls Tryd.prog 11 #[.string (k ++ Z), .string b] u fun e w' => e = .returned (.string X) ∧ Below w.heap.size w w') := fun u hu => by
      refine (T.mac (k ++ Z) b u (T.ok hw hu) (by rw [ByteArray.size_append]; omega) (by omega)).mono fun e w' h => ?_
      unfold SumR at h
      rw [hm] at h
      exact ⟨h.1, hu.trans (h.2.mono hu.size)⟩
    clear hX hm hZ hC hr hd
    go_enter Tryd.func7, Tryd.ntmps7
    go_wp2_with fail
    refine HW.out.mono ?_
    rintro y w1 ⟨rfl, hb1⟩
    have hcv1 := hcv w1
    go_wp2_with fail
    refine (C1.out _ (hb1.alloc hb1.size _)).mono ?_
    rintro y w2 ⟨rfl, hb2⟩
    go_wp2_with fail
    refine (C3.out _ hb2).mono ?_
    rintro y w3 ⟨rfl, hb3⟩
    go_wp2_with fail
    go_ret
    exact ⟨rfl, hb3⟩
end KeysL
end Go.Proofs.YtfbimjhhbddfjaaDoor
