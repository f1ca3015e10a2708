/- The law FrameSums: its walk (written by fsums.py). -/
import Derived.Test.YthiihilifckapaaFSumsP
import Derived.Test.YthiihilifckapaaFRefD
namespace Go.Proofs.Ythiihilifckapaa.Sums
open Go.RowKit

theorem two_new (u : World) (m : Nat) (o : Obj) : (((u.drewN m).alloc o).alloc o).heap[u.heap.size]? = some o ∧ (((u.drewN m).alloc o).alloc o).heap[u.heap.size + 1]? = some o := by
  have h1 := heap_new (u.drewN m) o
  have h2 := heap_new ((u.drewN m).alloc o) o
  have e : ((u.drewN m).alloc o).heap.size = u.heap.size + 1 := by simp
  rw [e] at h2
  refine ⟨?_, h2⟩
  rw [Below.heap_alloc _ o _ (by rw [e]; omega)]
  exact h1

theorem two_below {w u : World} (h : Below w.heap.size w u) (m : Nat) (o : Obj) : Below w.heap.size w (((u.drewN m).alloc o).alloc o) := by
  have h1 : Below w.heap.size w (u.drewN m) := h.trans ⟨rfl, rfl, rfl, Nat.le_refl _, fun _ _ => rfl⟩
  have hs := h1.size
  exact (h1.alloc hs o).alloc (Nat.le_trans hs (by simp)) o

set_option maxRecDepth 100000 in
set_option maxHeartbeats 1000000 in
theorem walkA (a b : ByteArray) (w : World) (hn0 : a.size ≤ 140737488351232) (hab : a.size ≤ b.size) :
    Calls Try.prog 6 #[.string a, .string b] w fun e w' => e = .returned (.bool true) ∧ Below w.heap.size w w' := by
  obtain ⟨n, hn⟩ : ∃ n, a.size = n := ⟨_, rfl⟩
  obtain ⟨M, hM, hmk⟩ := made_full n (by omega)
  have HM : Hid (M.toList = cellsB (List.replicate n 0)) := hM
  have k1 := cut_to a n (by omega)
  have k2 := cut_to b n (by omega)
  obtain ⟨p, hp⟩ : ∃ p, a.extract 0 n = p := ⟨_, rfl⟩
  obtain ⟨q, hq⟩ : ∃ q, b.extract 0 n = q := ⟨_, rfl⟩
  have hn47 : n ≤ 140737488351232 := by omega
  have hps : p.size = n := by rw [← hp, ByteArray.size_extract]; omega
  have hqs : q.size = n := by rw [← hq, ByteArray.size_extract]; omega
  have HP : Hid (p.data.toList.length = n) := hps
  have HQ : Hid (q.data.toList.length = n) := hqs
  rw [hp] at k1
  rw [hq] at k2
  have HNN : Hid ((a.size : Int) = (n : Int)) := (by omega : _ = _)
  clear hM hn hp hq
  go_enter Try.func6, Try.ntmps6
  go_wp2_with (go_at_call 16; refine (works6_any _).mono ?_; rintro e w1 ⟨rfl, hw1⟩; have hz1 := hw1.size)
  rw [HNN.out]
  go_quiet (fail)
  go_wp2
  go_region
  all_goals go_wp2
  · have HX0 : Hid (HoldsB (((w1.drewN (nq + 1)).alloc (.cells M 5)).alloc (.cells M 5)) w1.heap.size (partX p.data.toList q.data.toList n 0)) := (by rw [partX_zero]; exact ⟨M, HM.out, (two_new _ _ _).1⟩ : HoldsB _ _ _)
    have HZ0 : Hid (HoldsB (((w1.drewN (nq + 1)).alloc (.cells M 5)).alloc (.cells M 5)) (w1.heap.size + 1) (List.replicate n 0)) := (⟨M, HM.out, (two_new _ _ _).2⟩ : HoldsB _ _ _)
    have HB0 : Hid (Below w.heap.size w (((w1.drewN (nq + 1)).alloc (.cells M 5)).alloc (.cells M 5))) := two_below hw1 _ _
    go_loopw [27] (fun i wr => ∃ j : Nat, j ≤ n ∧ i = .int .i64 j ∧ HoldsB wr w1.heap.size (partX p.data.toList q.data.toList n j) ∧ HoldsB wr (w1.heap.size + 1) (List.replicate n 0) ∧ Below w.heap.size w wr) (fun i _ => n - (intOf i).toNat)
    case atStart => exact ⟨0, Nat.zero_le _, rfl, HX0.out, HZ0.out, HB0.out⟩
    case round =>
      obtain ⟨j, hj, rfl, hX, hZ, hB⟩ := hrel
      have HX : Hid (HoldsB wr w1.heap.size (partX p.data.toList q.data.toList n j)) := hX
      have HZ : Hid (HoldsB wr (w1.heap.size + 1) (List.replicate n 0)) := hZ
      have HB : Hid (Below w.heap.size w wr) := hB
      clear hX hZ hB HX0 HZ0 HB0
      by_cases hlt : j < n
      · have hp1 : j < p.size := by omega
        have hq1 : j < q.size := by omega
        have hlI : (j : Int) < (n : Int) := by omega
        have hlen : j < (partX p.data.toList q.data.toList n j).length := by rw [partX_length HP.out HQ.out (by omega)]; exact hlt
        have hc := HX.out.cell hlen
        have hf := HX.out.frozen j
        obtain ⟨c, hcc⟩ : ∃ c, ((partX p.data.toList q.data.toList n j)[j].toNat : Int) = c := ⟨_, rfl⟩
        rw [hcc] at hc
        have hx : bits .xor .u8 (p[j].toNat : Int) (q[j].toNat : Int) = (((p[j] ^^^ q[j] : UInt8).toNat : Nat) : Int) := by
          rw [u8_xor_nat _ _ p[j].toNat_lt q[j].toNat_lt, UInt8.toNat_xor]
        obtain ⟨d, hd⟩ : ∃ d, p[j] ^^^ q[j] = d := ⟨_, rfl⟩
        have HN : Hid ((partX p.data.toList q.data.toList n j).set j d = partX p.data.toList q.data.toList n (j + 1)) := (by
          rw [← partX_next HP.out HQ.out hlt, ← hd]; rfl : _ = _)
        rw [hd] at hx
        clear hlen hcc hd
        go_wp2
        go_region
        go_wp2
        go_roundw
        case rel =>
          refine ⟨j + 1, by omega, by go_num, ?_, ?_, ?_⟩
          · rw [← HN.out]
            exact (HX.out.set j d).of_block rfl
          · exact HZ.out.of_block ((Turn.setCell (S := fun k => k = w1.heap.size) wr ⟨w1.heap.size, j, none⟩ _ rfl).block (w1.heap.size + 1) HZ.out.lt (fun e => by omega))
          · exact HB.out.trans (((Turn.setCell (S := fun k => w.heap.size ≤ k) wr ⟨w1.heap.size, j, none⟩ _ (by dsimp only; omega)).drew).toBelow HB.out.size)
        case measure => simp [intOf]; omega
      · have hjn : j = n := by omega
        subst hjn
        rw [partX_all HP.out HQ.out] at HX
        obtain ⟨X, hX⟩ : ∃ X, bytesOf (xorL p.data.toList q.data.toList) = X := ⟨_, rfl⟩
        obtain ⟨Z, hZ⟩ : ∃ Z, bytesOf (List.replicate j 0) = Z := ⟨_, rfl⟩
        obtain ⟨S, hS⟩ : ∃ S : ByteArray → Nat, (fun b => crc b.data.toList) = S := ⟨_, rfl⟩
        have hXl : (xorL p.data.toList q.data.toList).length = j := by rw [xorL_length _ _ (by rw [HP.out, HQ.out]), HP.out]
        have sX : X.size ≤ maxLen := by rw [← hX]; show (xorL p.data.toList q.data.toList).length ≤ _; rw [hXl]; unfold maxLen; omega
        have sZ : Z.size ≤ maxLen := by rw [← hZ]; show (List.replicate j 0).length ≤ _; rw [List.length_replicate]; unfold maxLen; omega
        have sp : p.size ≤ maxLen := by unfold maxLen; omega
        have sq : q.size ≤ maxLen := by unfold maxLen; omega
        have SZ : Hid (X.size ≤ maxLen ∧ Z.size ≤ maxLen ∧ p.size ≤ maxLen ∧ q.size ≤ maxLen) := ⟨sX, sZ, sp, sq⟩
        have hlt0 : ∀ b, S b < 4294967296 := fun b => by rw [← hS]; exact crc_lt _
        have hxor : S X = S p ^^^ S q ^^^ S Z := by
          rw [← hS, ← hX, ← hZ]
          have h := crc_xor p.data.toList q.data.toList (by rw [HP.out, HQ.out])
          rw [HP.out] at h
          exact h
        have HS : Hid (∀ (b : ByteArray) (W : World), b.size ≤ maxLen → Calls Try.prog 9 #[.string b] W fun e w' => e = .returned (.int .u32 ((S b : Nat) : Int)) ∧ w' = W) := fun b W hb => by
          rw [← hS]
          exact fSum_any b W hb
        have c1 : ∀ m, (convert 39 9 (.slice (some ⟨w1.heap.size, 0, none⟩) j j)).run Try.prog (wr.drewN m) = .ok (.string X) (wr.drewN m) := fun m => by
          rw [← hX]
          exact (HX.out.of_block (w' := wr.drewN m) rfl).str hXl (by unfold maxLen; omega)
        have c2 : ∀ m, (convert 39 9 (.slice (some ⟨(w1.heap.size + 1), 0, none⟩) j j)).run Try.prog (wr.drewN m) = .ok (.string Z) (wr.drewN m) := fun m => by
          rw [← hZ]
          exact (HZ.out.of_block (w' := wr.drewN m) rfl).str (by simp) (by unfold maxLen; omega)
        obtain ⟨t, ht⟩ : ∃ t, S p ^^^ S q = t := ⟨_, rfl⟩
        have b1 : bits .xor .u32 (S p : Int) (S q : Int) = (t : Int) := by rw [← ht]; exact u32_xor_nat _ _ (hlt0 _) (hlt0 _)
        have b2 : bits .xor .u32 (t : Int) (S Z : Int) = (S X : Int) := by
          rw [hxor, ht]
          exact u32_xor_nat _ _ (ht ▸ xor_lt32 (hlt0 _) (hlt0 _)) (hlt0 _)
        clear hX hZ hS hXl sX sZ sp sq hlt0 hxor ht
        go_wp2
        go_quiet (first | (go_at_call 9; exact Calls.quiet_of_same (HS.out _ _ (by first | exact SZ.out.1 | exact SZ.out.2.1 | exact SZ.out.2.2.1 | exact SZ.out.2.2.2))))
        go_wp2
        go_ret
        exact ⟨rfl, below_draws HB.out _⟩
  · have HX0 : Hid (HoldsB (((w1.drewN (nq + 1)).alloc (.cells M 5)).alloc (.cells M 5)) (w1.heap.size + 1) (partX p.data.toList q.data.toList n 0)) := (by rw [partX_zero]; exact ⟨M, HM.out, (two_new _ _ _).2⟩ : HoldsB _ _ _)
    have HZ0 : Hid (HoldsB (((w1.drewN (nq + 1)).alloc (.cells M 5)).alloc (.cells M 5)) w1.heap.size (List.replicate n 0)) := (⟨M, HM.out, (two_new _ _ _).1⟩ : HoldsB _ _ _)
    have HB0 : Hid (Below w.heap.size w (((w1.drewN (nq + 1)).alloc (.cells M 5)).alloc (.cells M 5))) := two_below hw1 _ _
    go_loopw [27] (fun i wr => ∃ j : Nat, j ≤ n ∧ i = .int .i64 j ∧ HoldsB wr (w1.heap.size + 1) (partX p.data.toList q.data.toList n j) ∧ HoldsB wr w1.heap.size (List.replicate n 0) ∧ Below w.heap.size w wr) (fun i _ => n - (intOf i).toNat)
    case atStart => exact ⟨0, Nat.zero_le _, rfl, HX0.out, HZ0.out, HB0.out⟩
    case round =>
      obtain ⟨j, hj, rfl, hX, hZ, hB⟩ := hrel
      have HX : Hid (HoldsB wr (w1.heap.size + 1) (partX p.data.toList q.data.toList n j)) := hX
      have HZ : Hid (HoldsB wr w1.heap.size (List.replicate n 0)) := hZ
      have HB : Hid (Below w.heap.size w wr) := hB
      clear hX hZ hB HX0 HZ0 HB0
      by_cases hlt : j < n
      · have hp1 : j < p.size := by omega
        have hq1 : j < q.size := by omega
        have hlI : (j : Int) < (n : Int) := by omega
        have hlen : j < (partX p.data.toList q.data.toList n j).length := by rw [partX_length HP.out HQ.out (by omega)]; exact hlt
        have hc := HX.out.cell hlen
        have hf := HX.out.frozen j
        obtain ⟨c, hcc⟩ : ∃ c, ((partX p.data.toList q.data.toList n j)[j].toNat : Int) = c := ⟨_, rfl⟩
        rw [hcc] at hc
        have hx : bits .xor .u8 (p[j].toNat : Int) (q[j].toNat : Int) = (((p[j] ^^^ q[j] : UInt8).toNat : Nat) : Int) := by
          rw [u8_xor_nat _ _ p[j].toNat_lt q[j].toNat_lt, UInt8.toNat_xor]
        obtain ⟨d, hd⟩ : ∃ d, p[j] ^^^ q[j] = d := ⟨_, rfl⟩
        have HN : Hid ((partX p.data.toList q.data.toList n j).set j d = partX p.data.toList q.data.toList n (j + 1)) := (by
          rw [← partX_next HP.out HQ.out hlt, ← hd]; rfl : _ = _)
        rw [hd] at hx
        clear hlen hcc hd
        go_wp2
        go_region
        go_wp2
        go_roundw
        case rel =>
          refine ⟨j + 1, by omega, by go_num, ?_, ?_, ?_⟩
          · rw [← HN.out]
            exact (HX.out.set j d).of_block rfl
          · exact HZ.out.of_block ((Turn.setCell (S := fun k => k = (w1.heap.size + 1)) wr ⟨(w1.heap.size + 1), j, none⟩ _ rfl).block w1.heap.size HZ.out.lt (fun e => by omega))
          · exact HB.out.trans (((Turn.setCell (S := fun k => w.heap.size ≤ k) wr ⟨(w1.heap.size + 1), j, none⟩ _ (by dsimp only; omega)).drew).toBelow HB.out.size)
        case measure => simp [intOf]; omega
      · have hjn : j = n := by omega
        subst hjn
        rw [partX_all HP.out HQ.out] at HX
        obtain ⟨X, hX⟩ : ∃ X, bytesOf (xorL p.data.toList q.data.toList) = X := ⟨_, rfl⟩
        obtain ⟨Z, hZ⟩ : ∃ Z, bytesOf (List.replicate j 0) = Z := ⟨_, rfl⟩
        obtain ⟨S, hS⟩ : ∃ S : ByteArray → Nat, (fun b => crc b.data.toList) = S := ⟨_, rfl⟩
        have hXl : (xorL p.data.toList q.data.toList).length = j := by rw [xorL_length _ _ (by rw [HP.out, HQ.out]), HP.out]
        have sX : X.size ≤ maxLen := by rw [← hX]; show (xorL p.data.toList q.data.toList).length ≤ _; rw [hXl]; unfold maxLen; omega
        have sZ : Z.size ≤ maxLen := by rw [← hZ]; show (List.replicate j 0).length ≤ _; rw [List.length_replicate]; unfold maxLen; omega
        have sp : p.size ≤ maxLen := by unfold maxLen; omega
        have sq : q.size ≤ maxLen := by unfold maxLen; omega
        have SZ : Hid (X.size ≤ maxLen ∧ Z.size ≤ maxLen ∧ p.size ≤ maxLen ∧ q.size ≤ maxLen) := ⟨sX, sZ, sp, sq⟩
        have hlt0 : ∀ b, S b < 4294967296 := fun b => by rw [← hS]; exact crc_lt _
        have hxor : S X = S p ^^^ S q ^^^ S Z := by
          rw [← hS, ← hX, ← hZ]
          have h := crc_xor p.data.toList q.data.toList (by rw [HP.out, HQ.out])
          rw [HP.out] at h
          exact h
        have HS : Hid (∀ (b : ByteArray) (W : World), b.size ≤ maxLen → Calls Try.prog 9 #[.string b] W fun e w' => e = .returned (.int .u32 ((S b : Nat) : Int)) ∧ w' = W) := fun b W hb => by
          rw [← hS]
          exact fSum_any b W hb
        have c1 : ∀ m, (convert 39 9 (.slice (some ⟨(w1.heap.size + 1), 0, none⟩) j j)).run Try.prog (wr.drewN m) = .ok (.string X) (wr.drewN m) := fun m => by
          rw [← hX]
          exact (HX.out.of_block (w' := wr.drewN m) rfl).str hXl (by unfold maxLen; omega)
        have c2 : ∀ m, (convert 39 9 (.slice (some ⟨w1.heap.size, 0, none⟩) j j)).run Try.prog (wr.drewN m) = .ok (.string Z) (wr.drewN m) := fun m => by
          rw [← hZ]
          exact (HZ.out.of_block (w' := wr.drewN m) rfl).str (by simp) (by unfold maxLen; omega)
        obtain ⟨t, ht⟩ : ∃ t, S p ^^^ S q = t := ⟨_, rfl⟩
        have b1 : bits .xor .u32 (S p : Int) (S q : Int) = (t : Int) := by rw [← ht]; exact u32_xor_nat _ _ (hlt0 _) (hlt0 _)
        have b2 : bits .xor .u32 (t : Int) (S Z : Int) = (S X : Int) := by
          rw [hxor, ht]
          exact u32_xor_nat _ _ (ht ▸ xor_lt32 (hlt0 _) (hlt0 _)) (hlt0 _)
        clear hX hZ hS hXl sX sZ sp sq hlt0 hxor ht
        go_wp2
        go_quiet (first | (go_at_call 9; exact Calls.quiet_of_same (HS.out _ _ (by first | exact SZ.out.1 | exact SZ.out.2.1 | exact SZ.out.2.2.1 | exact SZ.out.2.2.2))))
        go_wp2
        go_ret
        exact ⟨rfl, below_draws HB.out _⟩

set_option maxRecDepth 100000 in
set_option maxHeartbeats 1000000 in
theorem walkB (a b : ByteArray) (w : World) (hn0 : b.size ≤ 140737488351232) (hab : b.size < a.size) :
    Calls Try.prog 6 #[.string a, .string b] w fun e w' => e = .returned (.bool true) ∧ Below w.heap.size w w' := by
  obtain ⟨n, hn⟩ : ∃ n, b.size = n := ⟨_, rfl⟩
  obtain ⟨M, hM, hmk⟩ := made_full n (by omega)
  have HM : Hid (M.toList = cellsB (List.replicate n 0)) := hM
  have k1 := cut_to a n (by omega)
  have k2 := cut_to b n (by omega)
  obtain ⟨p, hp⟩ : ∃ p, a.extract 0 n = p := ⟨_, rfl⟩
  obtain ⟨q, hq⟩ : ∃ q, b.extract 0 n = q := ⟨_, rfl⟩
  have hn47 : n ≤ 140737488351232 := by omega
  have hps : p.size = n := by rw [← hp, ByteArray.size_extract]; omega
  have hqs : q.size = n := by rw [← hq, ByteArray.size_extract]; omega
  have HP : Hid (p.data.toList.length = n) := hps
  have HQ : Hid (q.data.toList.length = n) := hqs
  rw [hp] at k1
  rw [hq] at k2
  have HNN : Hid ((b.size : Int) = (n : Int)) := (by omega : _ = _)
  clear hM hn hp hq
  go_enter Try.func6, Try.ntmps6
  go_wp2_with (go_at_call 16; refine (works6_any _).mono ?_; rintro e w1 ⟨rfl, hw1⟩; have hz1 := hw1.size)
  rw [HNN.out]
  go_quiet (fail)
  go_wp2
  go_region
  all_goals go_wp2
  · have HX0 : Hid (HoldsB (((w1.drewN (nq + 1)).alloc (.cells M 5)).alloc (.cells M 5)) w1.heap.size (partX p.data.toList q.data.toList n 0)) := (by rw [partX_zero]; exact ⟨M, HM.out, (two_new _ _ _).1⟩ : HoldsB _ _ _)
    have HZ0 : Hid (HoldsB (((w1.drewN (nq + 1)).alloc (.cells M 5)).alloc (.cells M 5)) (w1.heap.size + 1) (List.replicate n 0)) := (⟨M, HM.out, (two_new _ _ _).2⟩ : HoldsB _ _ _)
    have HB0 : Hid (Below w.heap.size w (((w1.drewN (nq + 1)).alloc (.cells M 5)).alloc (.cells M 5))) := two_below hw1 _ _
    go_loopw [27] (fun i wr => ∃ j : Nat, j ≤ n ∧ i = .int .i64 j ∧ HoldsB wr w1.heap.size (partX p.data.toList q.data.toList n j) ∧ HoldsB wr (w1.heap.size + 1) (List.replicate n 0) ∧ Below w.heap.size w wr) (fun i _ => n - (intOf i).toNat)
    case atStart => exact ⟨0, Nat.zero_le _, rfl, HX0.out, HZ0.out, HB0.out⟩
    case round =>
      obtain ⟨j, hj, rfl, hX, hZ, hB⟩ := hrel
      have HX : Hid (HoldsB wr w1.heap.size (partX p.data.toList q.data.toList n j)) := hX
      have HZ : Hid (HoldsB wr (w1.heap.size + 1) (List.replicate n 0)) := hZ
      have HB : Hid (Below w.heap.size w wr) := hB
      clear hX hZ hB HX0 HZ0 HB0
      by_cases hlt : j < n
      · have hp1 : j < p.size := by omega
        have hq1 : j < q.size := by omega
        have hlI : (j : Int) < (n : Int) := by omega
        have hlen : j < (partX p.data.toList q.data.toList n j).length := by rw [partX_length HP.out HQ.out (by omega)]; exact hlt
        have hc := HX.out.cell hlen
        have hf := HX.out.frozen j
        obtain ⟨c, hcc⟩ : ∃ c, ((partX p.data.toList q.data.toList n j)[j].toNat : Int) = c := ⟨_, rfl⟩
        rw [hcc] at hc
        have hx : bits .xor .u8 (p[j].toNat : Int) (q[j].toNat : Int) = (((p[j] ^^^ q[j] : UInt8).toNat : Nat) : Int) := by
          rw [u8_xor_nat _ _ p[j].toNat_lt q[j].toNat_lt, UInt8.toNat_xor]
        obtain ⟨d, hd⟩ : ∃ d, p[j] ^^^ q[j] = d := ⟨_, rfl⟩
        have HN : Hid ((partX p.data.toList q.data.toList n j).set j d = partX p.data.toList q.data.toList n (j + 1)) := (by
          rw [← partX_next HP.out HQ.out hlt, ← hd]; rfl : _ = _)
        rw [hd] at hx
        clear hlen hcc hd
        go_wp2
        go_region
        go_wp2
        go_roundw
        case rel =>
          refine ⟨j + 1, by omega, by go_num, ?_, ?_, ?_⟩
          · rw [← HN.out]
            exact (HX.out.set j d).of_block rfl
          · exact HZ.out.of_block ((Turn.setCell (S := fun k => k = w1.heap.size) wr ⟨w1.heap.size, j, none⟩ _ rfl).block (w1.heap.size + 1) HZ.out.lt (fun e => by omega))
          · exact HB.out.trans (((Turn.setCell (S := fun k => w.heap.size ≤ k) wr ⟨w1.heap.size, j, none⟩ _ (by dsimp only; omega)).drew).toBelow HB.out.size)
        case measure => simp [intOf]; omega
      · have hjn : j = n := by omega
        subst hjn
        rw [partX_all HP.out HQ.out] at HX
        obtain ⟨X, hX⟩ : ∃ X, bytesOf (xorL p.data.toList q.data.toList) = X := ⟨_, rfl⟩
        obtain ⟨Z, hZ⟩ : ∃ Z, bytesOf (List.replicate j 0) = Z := ⟨_, rfl⟩
        obtain ⟨S, hS⟩ : ∃ S : ByteArray → Nat, (fun b => crc b.data.toList) = S := ⟨_, rfl⟩
        have hXl : (xorL p.data.toList q.data.toList).length = j := by rw [xorL_length _ _ (by rw [HP.out, HQ.out]), HP.out]
        have sX : X.size ≤ maxLen := by rw [← hX]; show (xorL p.data.toList q.data.toList).length ≤ _; rw [hXl]; unfold maxLen; omega
        have sZ : Z.size ≤ maxLen := by rw [← hZ]; show (List.replicate j 0).length ≤ _; rw [List.length_replicate]; unfold maxLen; omega
        have sp : p.size ≤ maxLen := by unfold maxLen; omega
        have sq : q.size ≤ maxLen := by unfold maxLen; omega
        have SZ : Hid (X.size ≤ maxLen ∧ Z.size ≤ maxLen ∧ p.size ≤ maxLen ∧ q.size ≤ maxLen) := ⟨sX, sZ, sp, sq⟩
        have hlt0 : ∀ b, S b < 4294967296 := fun b => by rw [← hS]; exact crc_lt _
        have hxor : S X = S p ^^^ S q ^^^ S Z := by
          rw [← hS, ← hX, ← hZ]
          have h := crc_xor p.data.toList q.data.toList (by rw [HP.out, HQ.out])
          rw [HP.out] at h
          exact h
        have HS : Hid (∀ (b : ByteArray) (W : World), b.size ≤ maxLen → Calls Try.prog 9 #[.string b] W fun e w' => e = .returned (.int .u32 ((S b : Nat) : Int)) ∧ w' = W) := fun b W hb => by
          rw [← hS]
          exact fSum_any b W hb
        have c1 : ∀ m, (convert 39 9 (.slice (some ⟨w1.heap.size, 0, none⟩) j j)).run Try.prog (wr.drewN m) = .ok (.string X) (wr.drewN m) := fun m => by
          rw [← hX]
          exact (HX.out.of_block (w' := wr.drewN m) rfl).str hXl (by unfold maxLen; omega)
        have c2 : ∀ m, (convert 39 9 (.slice (some ⟨(w1.heap.size + 1), 0, none⟩) j j)).run Try.prog (wr.drewN m) = .ok (.string Z) (wr.drewN m) := fun m => by
          rw [← hZ]
          exact (HZ.out.of_block (w' := wr.drewN m) rfl).str (by simp) (by unfold maxLen; omega)
        obtain ⟨t, ht⟩ : ∃ t, S p ^^^ S q = t := ⟨_, rfl⟩
        have b1 : bits .xor .u32 (S p : Int) (S q : Int) = (t : Int) := by rw [← ht]; exact u32_xor_nat _ _ (hlt0 _) (hlt0 _)
        have b2 : bits .xor .u32 (t : Int) (S Z : Int) = (S X : Int) := by
          rw [hxor, ht]
          exact u32_xor_nat _ _ (ht ▸ xor_lt32 (hlt0 _) (hlt0 _)) (hlt0 _)
        clear hX hZ hS hXl sX sZ sp sq hlt0 hxor ht
        go_wp2
        go_quiet (first | (go_at_call 9; exact Calls.quiet_of_same (HS.out _ _ (by first | exact SZ.out.1 | exact SZ.out.2.1 | exact SZ.out.2.2.1 | exact SZ.out.2.2.2))))
        go_wp2
        go_ret
        exact ⟨rfl, below_draws HB.out _⟩
  · have HX0 : Hid (HoldsB (((w1.drewN (nq + 1)).alloc (.cells M 5)).alloc (.cells M 5)) (w1.heap.size + 1) (partX p.data.toList q.data.toList n 0)) := (by rw [partX_zero]; exact ⟨M, HM.out, (two_new _ _ _).2⟩ : HoldsB _ _ _)
    have HZ0 : Hid (HoldsB (((w1.drewN (nq + 1)).alloc (.cells M 5)).alloc (.cells M 5)) w1.heap.size (List.replicate n 0)) := (⟨M, HM.out, (two_new _ _ _).1⟩ : HoldsB _ _ _)
    have HB0 : Hid (Below w.heap.size w (((w1.drewN (nq + 1)).alloc (.cells M 5)).alloc (.cells M 5))) := two_below hw1 _ _
    go_loopw [27] (fun i wr => ∃ j : Nat, j ≤ n ∧ i = .int .i64 j ∧ HoldsB wr (w1.heap.size + 1) (partX p.data.toList q.data.toList n j) ∧ HoldsB wr w1.heap.size (List.replicate n 0) ∧ Below w.heap.size w wr) (fun i _ => n - (intOf i).toNat)
    case atStart => exact ⟨0, Nat.zero_le _, rfl, HX0.out, HZ0.out, HB0.out⟩
    case round =>
      obtain ⟨j, hj, rfl, hX, hZ, hB⟩ := hrel
      have HX : Hid (HoldsB wr (w1.heap.size + 1) (partX p.data.toList q.data.toList n j)) := hX
      have HZ : Hid (HoldsB wr w1.heap.size (List.replicate n 0)) := hZ
      have HB : Hid (Below w.heap.size w wr) := hB
      clear hX hZ hB HX0 HZ0 HB0
      by_cases hlt : j < n
      · have hp1 : j < p.size := by omega
        have hq1 : j < q.size := by omega
        have hlI : (j : Int) < (n : Int) := by omega
        have hlen : j < (partX p.data.toList q.data.toList n j).length := by rw [partX_length HP.out HQ.out (by omega)]; exact hlt
        have hc := HX.out.cell hlen
        have hf := HX.out.frozen j
        obtain ⟨c, hcc⟩ : ∃ c, ((partX p.data.toList q.data.toList n j)[j].toNat : Int) = c := ⟨_, rfl⟩
        rw [hcc] at hc
        have hx : bits .xor .u8 (p[j].toNat : Int) (q[j].toNat : Int) = (((p[j] ^^^ q[j] : UInt8).toNat : Nat) : Int) := by
          rw [u8_xor_nat _ _ p[j].toNat_lt q[j].toNat_lt, UInt8.toNat_xor]
        obtain ⟨d, hd⟩ : ∃ d, p[j] ^^^ q[j] = d := ⟨_, rfl⟩
        have HN : Hid ((partX p.data.toList q.data.toList n j).set j d = partX p.data.toList q.data.toList n (j + 1)) := (by
          rw [← partX_next HP.out HQ.out hlt, ← hd]; rfl : _ = _)
        rw [hd] at hx
        clear hlen hcc hd
        go_wp2
        go_region
        go_wp2
        go_roundw
        case rel =>
          refine ⟨j + 1, by omega, by go_num, ?_, ?_, ?_⟩
          · rw [← HN.out]
            exact (HX.out.set j d).of_block rfl
          · exact HZ.out.of_block ((Turn.setCell (S := fun k => k = (w1.heap.size + 1)) wr ⟨(w1.heap.size + 1), j, none⟩ _ rfl).block w1.heap.size HZ.out.lt (fun e => by omega))
          · exact HB.out.trans (((Turn.setCell (S := fun k => w.heap.size ≤ k) wr ⟨(w1.heap.size + 1), j, none⟩ _ (by dsimp only; omega)).drew).toBelow HB.out.size)
        case measure => simp [intOf]; omega
      · have hjn : j = n := by omega
        subst hjn
        rw [partX_all HP.out HQ.out] at HX
        obtain ⟨X, hX⟩ : ∃ X, bytesOf (xorL p.data.toList q.data.toList) = X := ⟨_, rfl⟩
        obtain ⟨Z, hZ⟩ : ∃ Z, bytesOf (List.replicate j 0) = Z := ⟨_, rfl⟩
        obtain ⟨S, hS⟩ : ∃ S : ByteArray → Nat, (fun b => crc b.data.toList) = S := ⟨_, rfl⟩
        have hXl : (xorL p.data.toList q.data.toList).length = j := by rw [xorL_length _ _ (by rw [HP.out, HQ.out]), HP.out]
        have sX : X.size ≤ maxLen := by rw [← hX]; show (xorL p.data.toList q.data.toList).length ≤ _; rw [hXl]; unfold maxLen; omega
        have sZ : Z.size ≤ maxLen := by rw [← hZ]; show (List.replicate j 0).length ≤ _; rw [List.length_replicate]; unfold maxLen; omega
        have sp : p.size ≤ maxLen := by unfold maxLen; omega
        have sq : q.size ≤ maxLen := by unfold maxLen; omega
        have SZ : Hid (X.size ≤ maxLen ∧ Z.size ≤ maxLen ∧ p.size ≤ maxLen ∧ q.size ≤ maxLen) := ⟨sX, sZ, sp, sq⟩
        have hlt0 : ∀ b, S b < 4294967296 := fun b => by rw [← hS]; exact crc_lt _
        have hxor : S X = S p ^^^ S q ^^^ S Z := by
          rw [← hS, ← hX, ← hZ]
          have h := crc_xor p.data.toList q.data.toList (by rw [HP.out, HQ.out])
          rw [HP.out] at h
          exact h
        have HS : Hid (∀ (b : ByteArray) (W : World), b.size ≤ maxLen → Calls Try.prog 9 #[.string b] W fun e w' => e = .returned (.int .u32 ((S b : Nat) : Int)) ∧ w' = W) := fun b W hb => by
          rw [← hS]
          exact fSum_any b W hb
        have c1 : ∀ m, (convert 39 9 (.slice (some ⟨(w1.heap.size + 1), 0, none⟩) j j)).run Try.prog (wr.drewN m) = .ok (.string X) (wr.drewN m) := fun m => by
          rw [← hX]
          exact (HX.out.of_block (w' := wr.drewN m) rfl).str hXl (by unfold maxLen; omega)
        have c2 : ∀ m, (convert 39 9 (.slice (some ⟨w1.heap.size, 0, none⟩) j j)).run Try.prog (wr.drewN m) = .ok (.string Z) (wr.drewN m) := fun m => by
          rw [← hZ]
          exact (HZ.out.of_block (w' := wr.drewN m) rfl).str (by simp) (by unfold maxLen; omega)
        obtain ⟨t, ht⟩ : ∃ t, S p ^^^ S q = t := ⟨_, rfl⟩
        have b1 : bits .xor .u32 (S p : Int) (S q : Int) = (t : Int) := by rw [← ht]; exact u32_xor_nat _ _ (hlt0 _) (hlt0 _)
        have b2 : bits .xor .u32 (t : Int) (S Z : Int) = (S X : Int) := by
          rw [hxor, ht]
          exact u32_xor_nat _ _ (ht ▸ xor_lt32 (hlt0 _) (hlt0 _)) (hlt0 _)
        clear hX hZ hS hXl sX sZ sp sq hlt0 hxor ht
        go_wp2
        go_quiet (first | (go_at_call 9; exact Calls.quiet_of_same (HS.out _ _ (by first | exact SZ.out.1 | exact SZ.out.2.1 | exact SZ.out.2.2.1 | exact SZ.out.2.2.2))))
        go_wp2
        go_ret
        exact ⟨rfl, below_draws HB.out _⟩

theorem walk (a b : ByteArray) (w : World) (ha : a.size ≤ 140737488351232) (hb : b.size ≤ 140737488351232) :
    Calls Try.prog 6 #[.string a, .string b] w fun e w' => e = .returned (.bool true) ∧ Below w.heap.size w w' := by
  by_cases h : a.size ≤ b.size
  · exact walkA a b w ha h
  · exact walkB a b w hb (by omega)

end Go.Proofs.Ythiihilifckapaa.Sums
