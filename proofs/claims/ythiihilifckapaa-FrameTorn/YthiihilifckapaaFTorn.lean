/- The law FrameTorn: its walk. -/
import Derived.Test.YthiihilifckapaaFWorks
import Derived.Test.YthiihilifckapaaFPlace
import Derived.Test.YthiihilifckapaaFSumsP
import Derived.Lib.ConvBytes
namespace Go.Proofs.Ythiihilifckapaa.Torn
open Go.RowKit

theorem wrap_u64n (n : Int) : IntKind.u64.wrap n = n % 18446744073709551616 := by simp [IntKind.wrap, IntKind.bits, IntKind.signed]

/-- a block whose first cells are bytes -/
def BytesAt (w : World) (g : Nat) (l : List UInt8) : Prop := ∃ C t fz, w.heap[g]? = some (.cells C t fz) ∧ ∀ j (hj : j < l.length), C[j]? = some (.int .u8 (l[j].toNat : Int))

theorem BytesAt.cell {w : World} {g : Nat} {l : List UInt8} (h : BytesAt w g l) {j : Nat} (hj : j < l.length) : w.cell? ⟨g, j, none⟩ = some (.int .u8 (l[j].toNat : Int)) := by
  obtain ⟨C, t, fz, h1, h2⟩ := h
  rw [cell_of h1]
  exact h2 j hj

theorem BytesAt.set {w : World} {g : Nat} {l : List UInt8} (h : BytesAt w g l) (i : Nat) (c : UInt8) : BytesAt (w.setCell ⟨g, i, none⟩ (.int .u8 (c.toNat : Int))) g (l.set i c) := by
  obtain ⟨C, t, fz, h1, h2⟩ := h
  refine ⟨_, t, fz, heap_setCell_same h1 i _, fun j hj => ?_⟩
  rw [List.length_set] at hj
  have h3 := h2 j hj
  rw [Array.getElem?_setIfInBounds]
  by_cases e : i = j
  · subst e
    have h4 : i < C.size := (Array.getElem?_eq_some_iff.1 h3).1
    simp [h4]
  · rw [if_neg e, h3, List.getElem_set_ne e]

theorem BytesAt.str {w : World} {g : Nat} {l : List UInt8} (h : BytesAt w g l) {n : Nat} (hn : l.length = n) (c : Nat) : (convert 39 9 (.slice (some ⟨g, 0, none⟩) n c)).run Try.prog w = .ok (.string (bytesOf l)) w := by
  subst hn
  refine run_convert_bytes_back w 39 9 5 ⟨g, 0, none⟩ c l Try.underlying39 Try.underlying5 Try.underlying9 fun j hj => ?_
  have h1 := h.cell hj
  rw [show (⟨g, 0, none⟩ : Addr).add j = ⟨g, j, none⟩ by cases j <;> simp [Addr.add]]
  exact h1

theorem conv_at (s : ByteArray) (W : World) (g : Nat) (hg : W.heap.size = g) : ∃ u c, (convert 9 39 (.string s)).run Try.prog W = .ok (.slice (some ⟨g, 0, none⟩) s.size c) u ∧ Below W.heap.size W u ∧ BytesAt u g s.data.toList ∧ ∀ j, j < s.size → u.frozen? ⟨g, j, none⟩ = false := by
  subst hg
  refine ⟨_, _, Lib.run_convert_string_bytes W 9 39 5 s Try.underlying9 Try.underlying39 Try.underlying5, ?_, ?_, fun j hj => ?_⟩
  · exact ⟨rfl, rfl, rfl, by rw [Lib.bytesWorld_size]; omega, fun j hj => Lib.bytesWorld_at_old W _ s j hj⟩
  · refine ⟨_, _, _, Lib.bytesWorld_at_new W _ s, fun j hj => ?_⟩
    have hj' : j < s.size := hj
    have h := Lib.bytesWorld_cell W 5 s j hj'
    rw [cell_of (Lib.bytesWorld_at_new W _ s)] at h
    rw [h, List.getD, List.getElem?_eq_getElem hj]
    rfl
  · have h := Lib.bytesWorld_at_new W 5 s
    have hs : s.size ≤ (Lib.bytesCells W 5 s).size := by
      unfold Lib.bytesCells
      rw [Array.size_append, Array.size_map]
      exact Nat.le_add_right _ _
    simp only [World.frozen?, h]
    simp
    omega

set_option maxRecDepth 100000 in
set_option maxHeartbeats 400000 in
theorem walk_long (b : ByteArray) (x : Int) (d : Int) (w : World) (h : 65536 < b.size) :
    Calls Try.prog 5 #[.string b, .int .i64 x, .int .u8 d] w fun e w' => e = .returned (.bool true) ∧ Below w.heap.size w w' := by
  have HF : Hid (∀ w : World, Calls Try.prog 7 #[.string b] w fun e w' => e = .returned (.tuple #[.string .empty, .int .i64 2]) ∧ w' = w) := fun w => fFrame_long b w h
  go_enter Try.func5, Try.ntmps5
  go_wp2_with (first
    | (go_at_call 16; refine (works6_any _).mono ?_; rintro e w1 ⟨rfl, hw1⟩)
    | (go_at_call 7; refine (HF.out _).mono ?_; rintro e w2 ⟨rfl, rfl⟩))
  go_ret
  exact ⟨rfl, hw1⟩

set_option maxRecDepth 100000 in
set_option maxHeartbeats 400000 in
theorem walk_short (b : ByteArray) (x : Int) (d : Int) (y : UInt8) (w : World) (h : b.size ≤ 65536) (hy : y ≠ 0) (hd : d = (y.toNat : Int) ∨ d = 0 ∧ y = 1) :
    Calls Try.prog 5 #[.string b, .int .i64 x, .int .u8 d] w fun e w' => e = .returned (.bool true) ∧ Below w.heap.size w w' := by
  obtain ⟨s, hs⟩ : ∃ s, frameB b = s := ⟨_, rfl⟩
  obtain ⟨n, hn⟩ : ∃ n, b.size = n := ⟨_, rfl⟩
  have hss : s.size = n + 8 := by rw [← hs, frameB_size, hn]
  obtain ⟨U, hU, hU2⟩ : ∃ U : Nat, x % 18446744073709551616 = (U : Int) ∧ U < 18446744073709551616 := ⟨(x % 18446744073709551616).toNat, by omega, by omega⟩
  obtain ⟨c, hc⟩ : ∃ c, U % (n + 8) = c := ⟨_, rfl⟩
  obtain ⟨i, hi⟩ : ∃ i, U % (n + 4) = i := ⟨_, rfl⟩
  have hc2 : c < n + 8 := hc ▸ Nat.mod_lt _ (by omega)
  have hi2 : i < n + 4 := hi ▸ Nat.mod_lt _ (by omega)
  have HF : Hid (∀ w : World, Calls Try.prog 7 #[.string b] w fun e w' => e = .returned (.tuple #[.string s, .int .i64 0]) ∧ Below w.heap.size w w') := fun w => hs ▸ fFrame_short b w h
  have k1 := cut_to s c (by omega)
  have HU : Hid (∀ w : World, Calls Try.prog 11 #[.string (s.extract 0 c), .int .i64 0] w fun e w' => e = .returned (.tuple #[.string .empty, .int .i64 0, .agg #[.int .i64 0, .int .i64 61]]) ∧ Below w.heap.size w w') := fun w => by
    have := fUnframe_any (s.extract 0 c) 0 w (by rw [ByteArray.size_extract]; omega)
    rw [← hs, found_short b c (by omega) h] at this
    rw [← hs]
    exact this
  obtain ⟨t, ht⟩ : ∃ t, s.extract 0 c = t := ⟨_, rfl⟩
  rw [ht] at k1 HU
  have u1 : (s.size : Int) % 18446744073709551616 = (s.size : Int) := by omega
  have u2 : ((s.size : Int) - 4) % 18446744073709551616 = (s.size : Int) - 4 := by omega
  have m1 : (U : Int) % (s.size : Int) = (c : Int) := by rw [← hc, hss]; omega
  have m2 : (U : Int) % ((s.size : Int) - 4) = (i : Int) := by rw [← hi, show (s.size : Int) - 4 = ((n + 4 : Nat) : Int) by omega]; omega
  have z1 : ¬ ((s.size : Int) = 0) := by omega
  have z2 : ¬ ((s.size : Int) - 4 = 0) := by omega
  have v0 : IntKind.u64.wrap x = (U : Int) := by rw [wrap_u64n]; exact hU
  have v1 : IntKind.u64.wrap (s.size : Int) = (s.size : Int) := by rw [wrap_u64n]; exact u1
  have v2 : IntKind.u64.wrap ((s.size : Int) - 4) = (s.size : Int) - 4 := by rw [wrap_u64n]; exact u2
  have v3 : IntKind.i64.wrap ((s.size : Int) - 4) = (s.size : Int) - 4 := wrap_small _ (by omega) (by omega)
  have v4 : IntKind.i64.wrap (c : Int) = (c : Int) := wrap_small _ (by omega) (by omega)
  have v5 : IntKind.i64.wrap (i : Int) = (i : Int) := wrap_small _ (by omega) (by omega)
  obtain ⟨I, hI⟩ : ∃ I, 4 + i = I := ⟨_, rfl⟩
  have v6 : IntKind.i64.wrap (4 + (i : Int)) = (I : Int) := by rw [wrap_small _ (by omega) (by omega)]; omega
  have hIl : I < s.data.toList.length := by show I < s.size; omega
  obtain ⟨d0, hd0⟩ : ∃ d0, s.data.toList[I] = d0 := ⟨_, rfl⟩
  obtain ⟨f, hf⟩ : ∃ f, d0 ^^^ y = f := ⟨_, rfl⟩
  have hx : bits .xor .u8 (d0.toNat : Int) (y.toNat : Int) = (f.toNat : Int) := by
    rw [u8_xor_nat _ _ d0.toNat_lt y.toNat_lt, ← hf, UInt8.toNat_xor]
  have hfd : f ≠ d0 := fun e => hy (by
    rw [← hf] at e
    have h1 : d0 ^^^ (d0 ^^^ y) = d0 ^^^ d0 := by rw [e]
    rw [← UInt8.xor_assoc, UInt8.xor_self, UInt8.zero_xor] at h1
    exact h1)
  obtain ⟨X, hX⟩ : ∃ X, bytesOf (s.data.toList.set I f) = X := ⟨_, rfl⟩
  have HX : Hid (∀ w : World, Calls Try.prog 11 #[.string X, .int .i64 0] w fun e w' => e = .returned (.tuple #[.string .empty, .int .i64 0, .agg #[.int .i64 0, .int .i64 60]]) ∧ Below w.heap.size w w') := fun w => by
    have hXl : X.data.toList = (frameB b).data.toList.set I f := by rw [← hX, hs]; rfl
    have hXs : X.size ≤ 562949953421312 := by
      have h1 : X.data.toList.length = X.size := rfl
      rw [← h1, hXl, List.length_set]
      show (frameB b).size ≤ _
      rw [frameB_size]
      omega
    have h2 := fUnframe_any X 0 w hXs
    rw [found_torn X b I f (by omega) (by omega) h hXl (fun d hd => by
      rw [hs, List.getElem?_eq_getElem hIl, hd0] at hd
      injection hd with hd
      rw [← hd]
      exact hfd)] at h2
    exact h2
  have HBK : Hid (∀ u g cp, BytesAt u g s.data.toList → (convert 39 9 (.slice (some ⟨g, 0, none⟩) s.size cp)).run Try.prog (u.setCell ⟨g, I, none⟩ (.int .u8 (f.toNat : Int))) = .ok (.string X) (u.setCell ⟨g, I, none⟩ (.int .u8 (f.toNat : Int)))) := fun u g cp hu => by
    rw [← hX]
    exact (hu.set I f).str (by rw [List.length_set]; rfl) cp
  have HCE : Hid (∀ u g, BytesAt u g s.data.toList → u.cell? ⟨g, I, none⟩ = some (.int .u8 (d0.toNat : Int))) := fun u g hu => by
    rw [← hd0]
    exact hu.cell hIl
  have HSS : Hid (s.size = n + 8) := hss
  have hs8 : 8 ≤ s.size := by omega
  have hs9 : s.size ≤ 65544 := by omega
  have hc3 : c < s.size := by omega
  have hI2 : I < s.size := by omega
  have hI3 : (I : Int) < (s.size : Int) := by omega
  have HY : Hid (y ≠ 0) := hy
  have HD : Hid (d = (y.toNat : Int) ∨ d = 0 ∧ y = 1) := hd
  clear hc hi hU2 hss hc2 hi2 hn h hI hIl hd0 hf hfd hX hs ht hy hd
  go_enter Try.func5, Try.ntmps5
  go_wp2_with (first
    | (go_at_call 16; refine (works6_any _).mono ?_; rintro e w1 ⟨rfl, hw1⟩)
    | (go_at_call 7; refine (HF.out _).mono ?_))
  rintro e w2 ⟨rfl, hw2⟩
  go_wp2_with (go_at_call 11; go_must (refine (HU.out _).mono ?_))
  rintro e w3 ⟨rfl, hw3⟩
  obtain ⟨u, cp, hconv, hbu, hby, hfr⟩ := conv_at s (w3.alloc (.cells #[.int .i64 0, .int .i64 61] 28)) (w3.heap.size + 1) (by simp)
  have q0 := HCE.out _ _ hby
  have q1 := hfr I hI2
  have q2 := HBK.out _ _ cp hby
  have HBU : Hid (Below (w3.alloc (.cells #[.int .i64 0, .int .i64 61] 28)).heap.size (w3.alloc (.cells #[.int .i64 0, .int .i64 61] 28)) u) := hbu
  clear hby hfr hbu
  have HE : Hid (∀ w4, Below (u.setCell ⟨w3.heap.size + 1, I, none⟩ (.int .u8 (f.toNat : Int))).heap.size (u.setCell ⟨w3.heap.size + 1, I, none⟩ (.int .u8 (f.toNat : Int))) w4 → Below w.heap.size w (w4.alloc (.cells #[.int .i64 0, .int .i64 60] 28))) := fun w4 hw4 => by
    have b2 := hw1.trans (hw2.mono hw1.size)
    have b3 := b2.trans (hw3.mono b2.size)
    have b4 := b3.alloc b3.size (.cells #[.int .i64 0, .int .i64 61] 28)
    have b5 := b4.trans (HBU.out.mono b4.size)
    have b6 := b5.trans ((Turn.setCell (S := fun k => w.heap.size ≤ k) u ⟨w3.heap.size + 1, I, none⟩ (.int .u8 (f.toNat : Int)) (Nat.le_trans b3.size (Nat.le_succ _))).toBelow b5.size)
    have b7 := b6.trans (hw4.mono b6.size)
    exact b7.alloc b7.size _
  rcases HD.out with hd | ⟨hd, hy⟩
  · subst hd
    have hy1 : ¬ ((y.toNat : Int) = 0) := fun e => HY.out (UInt8.toNat_inj.1 (Int.natCast_inj.1 e))
    go_wp2_with (go_at_call 11; go_must (refine (HX.out _).mono ?_))
    rintro e w4 ⟨rfl, hw4⟩
    go_wp2
    go_ret
    exact ⟨rfl, HE.out w4 hw4⟩
  · subst hd
    subst hy
    have hx' : bits .xor .u8 (d0.toNat : Int) (1 : Int) = (f.toNat : Int) := hx
    go_wp2_with (go_at_call 11; go_must (refine (HX.out _).mono ?_))
    rintro e w4 ⟨rfl, hw4⟩
    go_wp2
    go_ret
    exact ⟨rfl, HE.out w4 hw4⟩

theorem walk (b : ByteArray) (x d : Int) (w : World) (h0 : 0 ≤ d) (h1 : d < 256) :
    Calls Try.prog 5 #[.string b, .int .i64 x, .int .u8 d] w fun e w' => e = .returned (.bool true) ∧ Below w.heap.size w w' := by
  by_cases h : b.size ≤ 65536
  · by_cases hd : d = 0
    · exact walk_short b x d 1 w h (by decide) (Or.inr ⟨hd, rfl⟩)
    · obtain ⟨y, hy⟩ : ∃ y : UInt8, d = (y.toNat : Int) := ⟨UInt8.ofNat d.toNat, by
        rw [UInt8.toNat_ofNat', Nat.mod_eq_of_lt (by omega)]
        omega⟩
      exact walk_short b x d y w h (fun e => hd (by rw [hy, e]; rfl)) (Or.inl hy)
  · exact walk_long b x d w (by omega)

end Go.Proofs.Ythiihilifckapaa.Torn
