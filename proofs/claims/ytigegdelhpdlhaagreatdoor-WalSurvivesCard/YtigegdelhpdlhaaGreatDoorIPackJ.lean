import Derived.Test.YtigegdelhpdlhaaGreatDoorJRd2J
import Derived.Deep.DeepMust
import Derived.Test.YtigegdelhpdlhaaGreatDoorGrowJ
import Derived.Deep.RegionHeld3
/- Pack and Unpack, the program's and the document's. -/
namespace Go.Proofs.YtigegdelhpdlhaaGreatDoor
open Go.RowKit

theorem packs_iff {e s : Int} : packs e s = true ↔ (0 ≤ e ∧ e ≤ 2147483648) ∧ 0 ≤ s ∧ s ≤ 1048575 := by simp [packs, within]

theorem ret_pair {k l : IntKind} {a b a' b' : Int} (h : a = a') (h' : b = b') : Ending.returned (.tuple #[.int k a, .int l b]) = .returned (.tuple #[.int k a', .int l b']) := by rw [h, h']

set_option maxHeartbeats 1000000 in
theorem pack_any (e s : Int) (l a t : Bool) (w : World) : Calls Tryz.prog 34 #[.int .i64 e, .int .i64 s, .bool l, .bool a, .bool t] w fun x w' => x = .returned (.tuple #[.int .u64 (packW e s l a t), .int .i64 (packE e s)]) ∧ w' = w := by
  by_cases hp : packs e s = true
  · obtain ⟨⟨e0, e1⟩, s0, s1⟩ := packs_iff.1 hp
    have Hw : Hid (packW e s l a t = wordOf e s l a t) := by show _ = _; unfold packW; rw [if_pos hp]
    have He : Hid (packE e s = 0) := by show _ = _; unfold packE; rw [if_pos hp]
    have HE : Hid (within e 2147483648 = true) := by show _ = _; unfold within; simp [e0, e1]
    have HS : Hid (within s 1048575 = true) := by show _ = _; unfold within; simp [s0, s1]
    clear hp
    obtain ⟨B, hB⟩ : ∃ B, e * 8388608 + s * 8 = B := ⟨_, rfl⟩
    have k0 : bits .or .u64 (e * 8388608) (s * 8) = B := by rw [or_join 23 (by omega) (by omega) (by omega) (by omega) (by omega) (by omega), hB]
    have hB0 : 0 ≤ B := by omega
    have hB1 : B < 18014407099416576 := by omega
    have hB8 : B % 8 = 0 := by omega
    have HB : Hid (e * 8388608 + s * 8 = B) := hB
    have k1 : bits .or .u64 B 1 = B + 1 := or_join 1 hB0 (by omega) (by omega) (by decide) (by decide) (by decide)
    have k2 : bits .or .u64 B 2 = B + 2 := or_join 2 hB0 (by omega) (by omega) (by decide) (by decide) (by decide)
    have k3 : bits .or .u64 B 4 = B + 4 := or_join 3 hB0 (by omega) (by omega) (by decide) (by decide) (by decide)
    have k4 : bits .or .u64 (B + 1) 2 = B + 3 := by
      have h : bits .or .u64 (B + 1) 2 = bits .or .u64 B 3 := by
        have h1 : B + 1 = ((B + 1).toNat : Int) := by omega
        have h2 : B = (B.toNat : Int) := by omega
        have e1 := u64_or_nat (B + 1).toNat 2 (by omega) (by decide)
        have e2 := u64_or_nat B.toNat 3 (by omega) (by decide)
        have e3 := u64_or_nat B.toNat 1 (by omega) (by decide)
        rw [← h2] at e2 e3
        rw [← h1] at e1
        have e4 : (B + 1).toNat = B.toNat ||| 1 := by
          have : ((B.toNat ||| 1 : Nat) : Int) = B + 1 := by rw [← e3]; exact k1
          omega
        rw [e4, Nat.or_assoc] at e1
        exact e1.trans e2.symm
      rw [h]
      exact or_join 2 hB0 (by omega) (by omega) (by decide) (by decide) (by decide)
    have k5 : bits .or .u64 (B + 1) 4 = B + 5 := by
      have h : bits .or .u64 (B + 1) 4 = bits .or .u64 B 5 := by
        have h1 : B + 1 = ((B + 1).toNat : Int) := by omega
        have h2 : B = (B.toNat : Int) := by omega
        have e1 := u64_or_nat (B + 1).toNat 4 (by omega) (by decide)
        have e2 := u64_or_nat B.toNat 5 (by omega) (by decide)
        have e3 := u64_or_nat B.toNat 1 (by omega) (by decide)
        rw [← h2] at e2 e3
        rw [← h1] at e1
        have e4 : (B + 1).toNat = B.toNat ||| 1 := by
          have : ((B.toNat ||| 1 : Nat) : Int) = B + 1 := by rw [← e3]; exact k1
          omega
        rw [e4, Nat.or_assoc] at e1
        exact e1.trans e2.symm
      rw [h]
      exact or_join 3 hB0 (by omega) (by omega) (by decide) (by decide) (by decide)
    have k6 : bits .or .u64 (B + 2) 4 = B + 6 := by
      have h : bits .or .u64 (B + 2) 4 = bits .or .u64 B 6 := by
        have h1 : B + 2 = ((B + 2).toNat : Int) := by omega
        have h2 : B = (B.toNat : Int) := by omega
        have e1 := u64_or_nat (B + 2).toNat 4 (by omega) (by decide)
        have e2 := u64_or_nat B.toNat 6 (by omega) (by decide)
        have e3 := u64_or_nat B.toNat 2 (by omega) (by decide)
        rw [← h2] at e2 e3
        rw [← h1] at e1
        have e4 : (B + 2).toNat = B.toNat ||| 2 := by
          have : ((B.toNat ||| 2 : Nat) : Int) = B + 2 := by rw [← e3]; exact k2
          omega
        rw [e4, Nat.or_assoc] at e1
        exact e1.trans e2.symm
      rw [h]
      exact or_join 3 hB0 (by omega) (by omega) (by decide) (by decide) (by decide)
    have k7 : bits .or .u64 (B + 3) 4 = B + 7 := by
      have h : bits .or .u64 (B + 3) 4 = bits .or .u64 B 7 := by
        have h1 : B + 3 = ((B + 3).toNat : Int) := by omega
        have h2 : B = (B.toNat : Int) := by omega
        have e1 := u64_or_nat (B + 3).toNat 4 (by omega) (by decide)
        have e2 := u64_or_nat B.toNat 7 (by omega) (by decide)
        have e3 := u64_or_nat B.toNat 3 (by omega) (by decide)
        rw [← h2] at e2 e3
        rw [← h1] at e1
        have e4 : (B + 3).toNat = B.toNat ||| 3 := by
          have e5 : bits .or .u64 B 3 = B + 3 := or_join 2 hB0 (by omega) (by omega) (by decide) (by decide) (by decide)
          have : ((B.toNat ||| 3 : Nat) : Int) = B + 3 := by rw [← e3]; exact e5
          omega
        rw [e4, Nat.or_assoc] at e1
        exact e1.trans e2.symm
      rw [h]
      exact or_join 3 hB0 (by omega) (by omega) (by decide) (by decide) (by decide)
    have HF : Hid (∀ c : Int, c = b1 t * 4 + b1 a * 2 + b1 l → packW e s l a t = B + c) := by
      intro c hc
      rw [Hw.out, hc]
      unfold wordOf
      have := HB.out
      omega
    clear hB hB0 hB1 hB8 Hw
    cases l <;> cases a <;> cases t
    all_goals
      go_enter Tryz.func34, Tryz.ntmps34
      go_wp2_with fail
      refine (within_yes e _ _ HE.out).mono ?_
      rintro y w1 ⟨rfl, rfl⟩
      go_wp2_with fail
      refine (within_yes s _ _ HS.out).mono ?_
      rintro y w1 ⟨rfl, rfl⟩
      go_wp2_with fail
      go_ret2
      exact ⟨ret_pair (by rw [HF.out _ rfl]; simp [b1]) He.out.symm, rfl⟩
  · have hn : ¬ (((0 ≤ e ∧ e ≤ 2147483648)) ∧ 0 ≤ s ∧ s ≤ 1048575) := fun h => hp (packs_iff.2 h)
    have Hw : Hid (packW e s l a t = 0) := by show _ = _; unfold packW; rw [if_neg hp]
    have He : Hid (packE e s = 1) := by show _ = _; unfold packE; rw [if_neg hp]
    by_cases h1 : within e 2147483648 = true
    · have HE : Hid (within e 2147483648 = true) := h1
      have HS : Hid (within s 1048575 = false) := by
        show _ = _
        have h2 : packs e s = false := by simpa using hp
        unfold packs at h2
        rw [h1, Bool.true_and] at h2
        exact h2
      clear hp hn h1
      go_enter Tryz.func34, Tryz.ntmps34
      go_wp2_with fail
      refine (within_yes e _ _ HE.out).mono ?_
      rintro y w1 ⟨rfl, rfl⟩
      go_wp2_with fail
      refine (within_no s _ _ HS.out).mono ?_
      rintro y w1 ⟨rfl, rfl⟩
      go_wp2_with fail
      go_ret2
      exact ⟨ret_pair Hw.out.symm He.out.symm, rfl⟩
    · have HE : Hid (within e 2147483648 = false) := by show _ = _; simpa using h1
      clear hp hn h1
      go_enter Tryz.func34, Tryz.ntmps34
      go_wp2_with fail
      refine (within_no e _ _ HE.out).mono ?_
      rintro y w1 ⟨rfl, rfl⟩
      go_wp2_with fail
      go_ret2
      exact ⟨ret_pair Hw.out.symm He.out.symm, rfl⟩

theorem results_tmp6 {fn : Func} {t0 t1 t2 t3 t4 t5 : Tmp} (h : fn.results = #[.tmp t0, .tmp t1, .tmp t2, .tmp t3, .tmp t4, .tmp t5]) (tmps : Array Value) (P : Program) (w : World) :
    (results fn tmps).run P w = .ok (.tuple #[tmps.getD t0 undef, tmps.getD t1 undef, tmps.getD t2 undef, tmps.getD t3 undef, tmps.getD t4 undef, tmps.getD t5 undef]) w := by
  simp [results, h]

theorem may_epoch {x : Int} (h : may x = true) : x / 8388608 ≤ 2147483648 := by simpa [may] using h

set_option maxHeartbeats 1000000 in
theorem unpack_yes (x : Int) (w : World) (h0 : 0 ≤ x) (h1 : x < 18446744073709551616) (hm : may x = true) : Calls Tryz.prog 20 #[.int .u64 x] w fun y w' => y = .returned (.tuple #[.int .i64 (x / 8388608), .int .i64 (x / 8 % 1048576), .bool (x % 2 != 0), .bool (x / 2 % 2 * 2 != 0), .bool (x / 4 % 2 * 4 != 0), .int .i64 0]) ∧ w' = w := by
  have k1 := and_seq h0 h1
  have k2 := and_one h0 h1
  have k3 := and_two h0 h1
  have k4 := and_four h0 h1
  have he := may_epoch hm
  have k5 : x / 8 % 1048576 * 8 / 8 = x / 8 % 1048576 := by omega
  have k6 : IntKind.i64.wrap (x / 8 % 1048576) = x / 8 % 1048576 := by rw [IntKind.wrap_i64]; omega
  have k7 : IntKind.i64.wrap (x / 8388608) = x / 8388608 := by rw [IntKind.wrap_i64]; omega
  have HM : Hid (∀ u, Calls Tryz.prog 47 #[.int .u64 x] u fun e w' => e = .returned (.bool true) ∧ w' = u) := fun u => (mayBe_any x u h0 h1).mono fun e w' h => by rw [hm] at h; exact h
  clear hm
  go_enter Tryz.func20, Tryz.ntmps20
  go_wp2_with fail
  refine (HM.out _).mono ?_
  rintro y w1 ⟨rfl, rfl⟩
  go_wp2_with fail
  try simp only [Exit.inBlock, Exit.then]
  refine bodyPost_ret (results_tmp6 rfl _ _ _) rfl ?_
  exact ⟨rfl, rfl⟩

theorem unpack_no (x : Int) (w : World) (h0 : 0 ≤ x) (h1 : x < 18446744073709551616) (hm : may x = false) : Calls Tryz.prog 20 #[.int .u64 x] w fun y w' => y = .returned (.tuple #[.int .i64 0, .int .i64 0, .bool false, .bool false, .bool false, .int .i64 90]) ∧ w' = w := by
  have HM : Hid (∀ u, Calls Tryz.prog 47 #[.int .u64 x] u fun e w' => e = .returned (.bool false) ∧ w' = u) := fun u => (mayBe_any x u h0 h1).mono fun e w' h => by rw [hm] at h; exact h
  clear hm
  go_enter Tryz.func20, Tryz.ntmps20
  go_wp2_with fail
  refine (HM.out _).mono ?_
  rintro y w1 ⟨rfl, rfl⟩
  go_wp2_with fail
  try simp only [Exit.inBlock, Exit.then]
  refine bodyPost_ret (results_tmp6 rfl _ _ _) rfl ?_
  exact ⟨rfl, rfl⟩

end Go.Proofs.YtigegdelhpdlhaaGreatDoor

/- Layer 18: wal's writer: one write of a table, a key and a row of one whole number. -/
namespace Go.Proofs.YtigegdelhpdlhaaGreatDoor
open Go.RowKit QP

theorem Goes.thenB {I' I'' : World → (Nat → Prop) → Prop} {w w1 w' : World} {F : Nat → Prop} (R : Res I') (h : Goes I' w w1 F) {w2 : World} (hb : Below w1.heap.size w1 w2) (k : ∀ F', I' w2 F' → Goes I'' w2 w' F') : Goes I'' w w' F :=
  Goes.then' (Goes.thenStay R h hb) k
/-- the bytes of a write -/
def writeJ (t k : ByteArray) (n : Nat) : List UInt8 := le8J t.size ++ t.data.toList ++ (le8J k.size ++ k.data.toList) ++ [0] ++ (le8J 10 ++ (ofN (rowB n)).data.toList)

abbrev boxJ (t k : ByteArray) (x : Nat) : Obj := .cells #[.string t, .string k, .bool false, .slice (some ⟨x, 0, none⟩) 1 1] 63 (0, 0)
/-- within write: the writer, the write's own box, its row -/
def StW (w : World) (F : Nat → Prop) (b x : Nat) (t k : ByteArray) (n : Nat) (l : List UInt8) (u : World) : Prop :=
  ∃ F', WrJ b l u F' ∧ Turn F w u ∧ (∀ i, F' i → F i ∨ w.heap.size < i) ∧ u.heap[w.heap.size]? = some (boxJ t k x) ∧ OneAt u x 2 (n : Int) ByteArray.empty
section
variable {w u u' : World} {F F' : Nat → Prop} {b x n : Nat} {t k : ByteArray} {l l2 : List UInt8}
theorem StW.goes (h : StW w F b x t k n l u) : Goes (WrJ b l) w u F := by
  obtain ⟨F', h1, h2, h3, _⟩ := h
  exact ⟨F', h1, h2, fun i hi => (h3 i hi).imp id Nat.le_of_lt⟩
theorem oneAt_turn {S : Nat → Prop} (h : OneAt u x 2 (n : Int) ByteArray.empty) (ht : Turn S u u') (hx : ¬ S x) : OneAt u' x 2 (n : Int) ByteArray.empty := by
  obtain ⟨h0, h1, h2, h3, h4⟩ := h
  have hb := ht.block x h0 hx
  have hc : ∀ i v, u.cell? ⟨x, i, none⟩ = some v → u'.cell? ⟨x, i, none⟩ = some v := fun i v hv => by
    rw [← hv]
    unfold World.cell?
    rw [hb]
  exact ⟨Nat.lt_of_lt_of_le h0 ht.size, hc _ _ h1, hc _ _ h2, hc _ _ h3, hc _ _ h4⟩
theorem StW.call (hF : ∀ i, F i → i < w.heap.size) (hFx : ¬ F x) (hx : x < w.heap.size) (h : StW w F b x t k n l u) : ∃ A, WrJ b l u A ∧ ∀ l2 u', Goes (WrJ b l2) u u' A → StW w F b x t k n l2 u' := by
  obtain ⟨F', h1, h2, h3, h4, h5⟩ := h
  have hu := lt_of h4
  refine ⟨F', h1, fun l2 u' hg => ?_⟩
  obtain ⟨F2, g1, g2, g3⟩ := hg
  refine ⟨F2, g1, h2.transNew g2 (fun i hi => (h3 i hi).imp id Nat.le_of_lt), fun i hi => ?_, (g2.block _ hu (fun hf => ?_)).trans h4, oneAt_turn h5 g2 (fun hf => ?_)⟩
  · rcases g3 i hi with h | h
    · exact h3 i h
    · exact Or.inr (Nat.lt_of_lt_of_le hu h)
  · rcases h3 _ hf with h | h
    · exact Nat.lt_irrefl _ (hF _ h)
    · exact Nat.lt_irrefl _ h
  · rcases h3 _ hf with h | h
    · exact hFx h
    · omega
theorem StW.below (h : StW w F b x t k n l u) (hb : Below u.heap.size u u') : StW w F b x t k n l u' := by
  obtain ⟨F', h1, h2, h3, h4, h5⟩ := h
  exact ⟨F', (wrJ_res b l).kept (S := fun _ => False) h1 (Turn.ofBelow _ hb) (fun _ _ h => h), h2.trans (Turn.ofBelow F hb), h3, (hb.block _ (lt_of h4)).trans h4, h5.below hb⟩
theorem StW.cells (h : StW w F b x t k n l u) : u.cell? ⟨w.heap.size, 0, none⟩ = some (.string t) ∧ u.cell? ⟨w.heap.size, 1, none⟩ = some (.string k) ∧ u.cell? ⟨w.heap.size, 2, none⟩ = some (.bool false) ∧ u.cell? ⟨w.heap.size, 3, none⟩ = some (.slice (some ⟨x, 0, none⟩) 1 1) := by
  obtain ⟨_, _, _, _, h4, _⟩ := h
  exact ⟨by rw [cell_of h4]; rfl, by rw [cell_of h4]; rfl, by rw [cell_of h4]; rfl, by rw [cell_of h4]; rfl⟩
theorem StW.row (h : StW w F b x t k n l u) : OneAt u x 2 (n : Int) ByteArray.empty := by
  obtain ⟨_, _, _, _, _, h5⟩ := h
  exact h5
end

set_option maxRecDepth 100000 in
set_option maxHeartbeats 2000000 in
theorem jwwrite_any (b x n : Nat) (t k : ByteArray) (l : List UInt8) (w : World) (F : Nat → Prop) (h : WrJ b l w F) (hv : OneAt w x 2 (n : Int) ByteArray.empty) (hFx : ¬ F x) (hn : n < 9223372036854775808) (ht : t.size ≤ 100) (hk : k.size ≤ 100) (hl : l.length ≤ 10000) :
    Calls Tryz.prog 89 #[.pointer (some ⟨b, 0, none⟩), .agg #[.string t, .string k, .bool false, .slice (some ⟨x, 0, none⟩) 1 1]] w fun e w' => e = .returned (.tuple #[]) ∧ Goes (WrJ b (l ++ writeJ t k n)) w w' F := by
  have hF : ∀ i, F i → i < w.heap.size := fun i hi => (wrJ_res b l).lt h i hi
  have hx := hv.1
  obtain ⟨w1, hw1⟩ : ∃ u, w.alloc (boxJ t k x) = u := ⟨_, rfl⟩
  have S1 : Hid (StW w F b x t k n l w1) := by
    have hb : Below w.heap.size w w1 := by rw [← hw1]; exact (Below.refl _ _).alloc (Nat.le_refl _) _
    refine ⟨F, (wrJ_res b l).kept (S := fun _ => False) h (Turn.ofBelow _ hb) (fun _ _ h => h), Turn.ofBelow F hb, fun i hi => Or.inl hi, ?_, hv.below hb⟩
    rw [← hw1]
    exact heap_new w _
  have HW1 : Hid (w.alloc (boxJ t k x) = w1) := hw1
  have HCall : Hid (∀ l u, StW w F b x t k n l u → ∃ A, WrJ b l u A ∧ ∀ l2 u', Goes (WrJ b l2) u u' A → StW w F b x t k n l2 u') := fun l u hs => hs.call hF hFx hx
  have l8 : ∀ m, (le8J m).length = 8 := le8J_length
  clear h hv hw1 hF
  go_enter Tryz.func89, Tryz.ntmps89
  go_wp2_with fail
  rw [HW1.out]
  obtain ⟨A1, i1, k1⟩ := HCall.out _ _ S1.out
  refine (jwtext_any b l t w1 A1 i1 (by omega)).mono ?_
  rintro e w2 ⟨rfl, hg2⟩
  have S2 : Hid (StW w F b x t k n (l ++ le8J t.size ++ t.data.toList) w2) := k1 _ _ hg2
  obtain ⟨c0, c1, c2, c3⟩ := S2.out.cells
  clear hg2 k1 i1
  go_wp2_with fail
  obtain ⟨A2, i2, k2⟩ := HCall.out _ _ S2.out
  refine (jwtext_any b _ k w2 A2 i2 (by simp only [List.length_append, l8, size_list]; omega)).mono ?_
  rintro e w3 ⟨rfl, hg3⟩
  have S3 : Hid (StW w F b x t k n (l ++ le8J t.size ++ t.data.toList ++ le8J k.size ++ k.data.toList) w3) := k2 _ _ hg3
  clear hg3 k2 i2 c0 c1 c2 c3
  obtain ⟨c0, c1, c2, c3⟩ := S3.out.cells
  go_wp2_with fail
  obtain ⟨A3, i3, k3⟩ := HCall.out _ _ S3.out
  refine (jwflag_no b _ w3 A3 i3 (by simp only [List.length_append, l8, size_list]; omega)).mono ?_
  rintro e w4 ⟨rfl, hg4⟩
  have S4 : Hid (StW w F b x t k n (l ++ le8J t.size ++ t.data.toList ++ le8J k.size ++ k.data.toList ++ [0]) w4) := k3 _ _ hg4
  clear hg4 k3 i3 c0 c1 c2 c3
  obtain ⟨c0, c1, c2, c3⟩ := S4.out.cells
  go_wp2_with fail
  refine (vencode_one x n w4 S4.out.row hn).mono ?_
  rintro e w5 ⟨rfl, hb5⟩
  have S5 : Hid (StW w F b x t k n (l ++ le8J t.size ++ t.data.toList ++ le8J k.size ++ k.data.toList ++ [0]) w5) := S4.out.below hb5
  have HM : Hid (Calls Tryz.prog 60 #[.int .i64 0] w5 fun r w' => r = .returned (.tuple #[]) ∧ w' = w5) := must_no w5
  clear hb5 c0 c1 c2 c3
  go_wp2_with fail
  refine HM.out.mono ?_
  rintro e w6 ⟨rfl, h6⟩
  obtain rfl := h6.symm
  obtain ⟨A5, i5, k5⟩ := HCall.out _ _ S5.out
  have hrl : (ofN (rowB n)).size = 10 := by rw [ofN_size, rowB_length]
  have HT : Hid (Calls Tryz.prog 110 #[.pointer (some ⟨b, 0, none⟩), .string (ofN (rowB n))] w5 fun e w' => e = .returned (.tuple #[]) ∧ Goes (WrJ b (l ++ le8J t.size ++ t.data.toList ++ le8J k.size ++ k.data.toList ++ [0] ++ le8J (ofN (rowB n)).size ++ (ofN (rowB n)).data.toList)) w5 w' A5) := jwtext_any b _ (ofN (rowB n)) w5 A5 i5 (by simp only [List.length_append, l8, size_list, hrl, List.length_singleton]; omega)
  have HEq : Hid (l ++ le8J t.size ++ t.data.toList ++ le8J k.size ++ k.data.toList ++ [0] ++ le8J (ofN (rowB n)).size ++ (ofN (rowB n)).data.toList = l ++ writeJ t k n) := by
    show _ = _
    unfold writeJ
    rw [hrl]
    simp only [List.append_assoc]
  clear i5 hrl l8
  go_wp2_with fail
  refine HT.out.mono ?_
  rintro e w7 ⟨rfl, hg7⟩
  have S7 : Hid (StW w F b x t k n (l ++ writeJ t k n) w7) := by
    have h := k5 _ _ hg7
    rw [HEq.out] at h
    exact h
  clear hg7 k5
  go_wp2_with fail
  go_returns
  exact ⟨rfl, S7.out.goes⟩
end Go.Proofs.YtigegdelhpdlhaaGreatDoor

/- Layer 18: wal.check, wal.epochOf of an entry of one write of a row of one whole number. -/
namespace Go.Proofs.YtigegdelhpdlhaaGreatDoor
open Go.RowKit QP

/-- the word of a tid, as the laws make it -/
structure TidOk (t : Nat) : Prop where
  lt : t < 18446744073709551616
  epoch : t / 8388608 ≤ 2147483648
  flags : t % 8 = 0
theorem TidOk.may {t : Nat} (h : TidOk t) : may (t : Int) = true := by
  have := h.epoch
  simp [Proofs.YtigegdelhpdlhaaGreatDoor.may]
  omega
/-- an entry in memory: one write of table t, key k, a row of one whole number -/
def EntAt (w : World) (v : Value) (T : Nat) (t k : ByteArray) (n : Nat) : Prop := ∃ g x, v = .agg #[.int .u64 (T : Int), .slice (some ⟨g, 0, none⟩) 1 1] ∧ w.heap[g]? = some (boxJ t k x) ∧ OneAt w x 2 (n : Int) ByteArray.empty
theorem EntAt.below {w w' : World} {v : Value} {T n : Nat} {t k : ByteArray} (h : EntAt w v T t k n) (hb : Below w.heap.size w w') : EntAt w' v T t k n := by
  obtain ⟨g, x, h1, h2, h3⟩ := h
  exact ⟨g, x, h1, (hb.block g (lt_of h2)).trans h2, h3.below hb⟩

set_option maxRecDepth 100000 in
set_option maxHeartbeats 2000000 in
theorem jepochOf_any (T : Nat) (v : Value) (w : World) (hT : TidOk T) : Calls Tryz.prog 64 #[.agg #[.int .u64 (T : Int), v]] w fun e w' => e = .returned (.int .i64 ((T / 8388608 : Nat) : Int)) ∧ Below w.heap.size w w' := by
  have HU : Hid (∀ u, Calls Tryz.prog 20 #[.int .u64 (T : Int)] u fun y w' => y = .returned (.tuple #[.int .i64 ((T / 8388608 : Nat) : Int), .int .i64 ((T : Int) / 8 % 1048576), .bool ((T : Int) % 2 != 0), .bool ((T : Int) / 2 % 2 * 2 != 0), .bool ((T : Int) / 4 % 2 * 4 != 0), .int .i64 0]) ∧ u = w') := fun u => (unpack_yes (T : Int) u (by omega) (by have := hT.lt; omega) hT.may).mono fun _ _ h => ⟨h.1, h.2.symm⟩
  go_enter Tryz.func64, Tryz.ntmps64
  go_wp2_with (first
    | (go_at_call 20; (with_reducible refine (HU.out _).mono ?_); rintro e w1 ⟨rfl, rfl⟩))
  go_ret
  exact ⟨rfl, by go_grown⟩

set_option maxRecDepth 100000 in
set_option maxHeartbeats 2000000 in
theorem jcheck_any (T n : Nat) (t k : ByteArray) (g x : Nat) (w : World) (hT : TidOk T) (hg : w.heap[g]? = some (boxJ t k x)) (hx : OneAt w x 2 (n : Int) ByteArray.empty) (ht : t.size ≤ 100) (hk : k.size ≤ 100) :
    Calls Tryz.prog 87 #[.agg #[.int .u64 (T : Int), .slice (some ⟨g, 0, none⟩) 1 1]] w fun e w' => e = .returned (.tuple #[]) ∧ Below w.heap.size w w' := by
  have HU : Hid (∀ u, Calls Tryz.prog 20 #[.int .u64 (T : Int)] u fun y w' => y = .returned (.tuple #[.int .i64 ((T / 8388608 : Nat) : Int), .int .i64 ((T : Int) / 8 % 1048576), .bool ((T : Int) % 2 != 0), .bool ((T : Int) / 2 % 2 * 2 != 0), .bool ((T : Int) / 4 % 2 * 4 != 0), .int .i64 0]) ∧ u = w') := fun u => (unpack_yes (T : Int) u (by omega) (by have := hT.lt; omega) hT.may).mono fun _ _ h => ⟨h.1, h.2.symm⟩
  have HN : Hid (∀ u, Calls Tryz.prog 107 #[.int .u64 (T : Int)] u fun y w' => y = .returned (.int .u64 (T : Int)) ∧ u = w') := fun u => (number_any (T : Int) u (by omega) (by have := hT.lt; omega)).mono fun _ _ h => ⟨by rw [h.1]; have := hT.flags; unfold num; congr 2; omega, h.2.symm⟩
  have HRf : Hid (∀ u, Calls Tryz.prog 55 #[.bool false, .int .i64 180] u fun r w' => r = .returned (.tuple #[]) ∧ u = w') := fun u => (refuse_no 180 u).mono fun _ _ h => ⟨h.1, h.2.symm⟩
  have HCk : Hid (∀ u, OneAt u x 2 (n : Int) ByteArray.empty → Calls Tryz.prog 108 #[.slice (some ⟨x, 0, none⟩) 1 1] u fun e w' => e = .returned (.tuple #[.int .i64 0, .int .i64 0]) ∧ Below u.heap.size u w') := fun u hv => check_one x 2 (n : Int) ByteArray.empty u hv (fun u => mayBe_int (n : Int) u)
  have HC : Hid (Calls Tryz.prog 108 #[.slice (some ⟨x, 0, none⟩) 1 1] ((w.alloc (.cells #[.int .u64 (T : Int), .slice (some ⟨g, 0, none⟩) 1 1] 42)).alloc (.cells #[.string t, .string k, .bool false, .slice (some ⟨x, 0, none⟩) 1 1] 63)).drew fun e w' => e = .returned (.tuple #[.int .i64 0, .int .i64 0]) ∧ w'.cell? ⟨w.heap.size + 1, 2, none⟩ = some (.bool false) ∧ Hid (Below w.heap.size w w')) := by
    have hb : Below w.heap.size w ((w.alloc (.cells #[.int .u64 (T : Int), .slice (some ⟨g, 0, none⟩) 1 1] 42)).alloc (.cells #[.string t, .string k, .bool false, .slice (some ⟨x, 0, none⟩) 1 1] 63)).drew := by go_grown
    have hc : ((w.alloc (.cells #[.int .u64 (T : Int), .slice (some ⟨g, 0, none⟩) 1 1] 42)).alloc (.cells #[.string t, .string k, .bool false, .slice (some ⟨x, 0, none⟩) 1 1] 63)).drew.heap[w.heap.size + 1]? = some (boxJ t k x) := by
      have h := heap_new (w.alloc (.cells #[.int .u64 (T : Int), .slice (some ⟨g, 0, none⟩) 1 1] 42)) (boxJ t k x)
      rw [World.size_alloc] at h
      exact h
    refine (HCk.out _ (hx.below hb)).mono fun e w' ⟨e1, e2⟩ => ⟨e1, ?_, hb.trans (e2.mono hb.size)⟩
    rw [cell_of ((e2.block _ (lt_of hc)).trans hc)]
    rfl
  have HW : Hid (w.heap[g]? = some (boxJ t k x) ∧ OneAt w x 2 (n : Int) ByteArray.empty) := ⟨hg, hx⟩
  have hgl := lt_of hg
  have hxl := hx.1
  have q0 : w.cell? ⟨g, 0, none⟩ = some (.string t) := by rw [cell_of hg]; rfl
  have q1 : w.cell? ⟨g, 1, none⟩ = some (.string k) := by rw [cell_of hg]; rfl
  have q2 : w.cell? ⟨g, 2, none⟩ = some (.bool false) := by rw [cell_of hg]; rfl
  have q3 : w.cell? ⟨g, 3, none⟩ = some (.slice (some ⟨x, 0, none⟩) 1 1) := by rw [cell_of hg]; rfl
  have m1 : decide (4096 < t.size) = false := decide_eq_false (by omega)
  have m2 : decide (4096 < k.size) = false := decide_eq_false (by omega)
  have m3 : decide ((4096 : Int) < (t.size : Int)) = false := decide_eq_false (by omega)
  have m4 : decide ((4096 : Int) < (k.size : Int)) = false := decide_eq_false (by omega)
  have m5 : ¬ (4096 : Int) < (t.size : Int) := by omega
  have m6 : ¬ (4096 : Int) < (k.size : Int) := by omega
  clear hT hg hx
  go_enter Tryz.func87, Tryz.ntmps87
  go_wp2_with (first
    | (go_at_call 20; (with_reducible refine (HU.out _).mono ?_); rintro e w1 ⟨rfl, rfl⟩)
    | (go_at_call 107; (with_reducible refine (HN.out _).mono ?_); rintro e w1 ⟨rfl, rfl⟩)
    | (go_at_call 55; (with_reducible refine (HRf.out _).mono ?_); rintro e w2 ⟨rfl, rfl⟩))
  go_region_with (first
    | (go_at_call 107; (with_reducible refine (HN.out _).mono ?_); rintro e w1 ⟨rfl, rfl⟩)
    | (go_at_call 55; (with_reducible refine (HRf.out _).mono ?_); rintro e w2 ⟨rfl, rfl⟩))
  all_goals
    go_wp2_with (first
      | (go_at_call 55; (with_reducible refine (HRf.out _).mono ?_); rintro e w2 ⟨rfl, rfl⟩))
  all_goals
    refine wp_loop_rounds 2 ?_
    rw [rounds_succ]
    go_wp2_with (first
      | (go_at_call 55; (with_reducible refine (HRf.out _).mono ?_); rintro e w2 ⟨rfl, rfl⟩)
      | (go_at_call 108; (with_reducible refine HC.out.mono ?_); rintro e w3 ⟨rfl, c2, HB3⟩))
    rw [rounds_succ]
    go_wp2_with fail
    go_end0
    exact ⟨rfl, HB3.out⟩
end Go.Proofs.YtigegdelhpdlhaaGreatDoor
