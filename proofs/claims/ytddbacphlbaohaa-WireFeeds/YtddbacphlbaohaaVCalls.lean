/- The program's small calls: lengths, packets, new readers, what is left, what is bad. -/
import Derived.Test.YtddbacphlbaohaaVMem
namespace Go.Proofs.Ytddbacphlbaohaa
open Go.RowKit

theorem or_add {a b k : Nat} (h : a < 2 ^ k) : b * 2 ^ k ||| a = b * 2 ^ k + a := by
  have := Nat.two_pow_add_eq_or_of_lt h b
  rw [Nat.mul_comm b]
  exact this.symm

theorem u32_or_add (a b k : Nat) (h : a < 2 ^ k) (hs : b * 2 ^ k + a < 4294967296) : bits .or .u32 ((b * 2 ^ k : Nat) : Int) (a : Int) = ((b * 2 ^ k + a : Nat) : Int) := by
  rw [u32_or_nat _ _ (by omega) (by omega), or_add h]

theorem word_bits {p q r t : Nat} (hp : p < 256) (hq : q < 256) (hr : r < 256) (ht : t < 256) :
    bits .or .u32 (bits .or .u32 (bits .or .u32 ((p : Int) * 16777216) ((q : Int) * 65536)) ((r : Int) * 256)) (t : Int) = ((p * 16777216 + q * 65536 + r * 256 + t : Nat) : Int) := by
  rw [show (p : Int) * 16777216 = ((p * 2 ^ 24 : Nat) : Int) by omega, show (q : Int) * 65536 = ((q * 65536 : Nat) : Int) by omega,
    show (r : Int) * 256 = ((r * 256 : Nat) : Int) by omega, u32_or_add (q * 65536) p 24 (by omega) (by omega),
    show p * 2 ^ 24 + q * 65536 = (p * 256 + q) * 2 ^ 16 by omega, u32_or_add (r * 256) _ 16 (by omega) (by omega),
    show (p * 256 + q) * 2 ^ 16 + r * 256 = (p * 65536 + q * 256 + r) * 2 ^ 8 by omega, u32_or_add t _ 8 (by omega) (by omega)]

set_option maxHeartbeats 400000 in
theorem vlengthOf_at (b off c : Nat) (p q r t : UInt8) (w : World) (h0 : w.cell? ⟨b, off, none⟩ = some (.int .u8 (p.toNat : Int))) (h1 : w.cell? ⟨b, off + 1, none⟩ = some (.int .u8 (q.toNat : Int))) (h2 : w.cell? ⟨b, off + 2, none⟩ = some (.int .u8 (r.toNat : Int))) (h3 : w.cell? ⟨b, off + 3, none⟩ = some (.int .u8 (t.toNat : Int))) :
    Calls Try.prog 21 #[.slice (some ⟨b, off, none⟩) 4 c] w fun e w' => e = .returned (.int .u32 ((be4 [p, q, r, t] : Nat) : Int)) ∧ ∃ m, w' = w.drewN m := by
  have y0 := p.toNat_lt
  have y1 := q.toNat_lt
  have y2 := r.toNat_lt
  have y3 := t.toNat_lt
  have HE : Hid (be4 [p, q, r, t] = p.toNat * 16777216 + q.toNat * 65536 + r.toNat * 256 + t.toNat) := (rfl : _ = _)
  rw [HE.out]
  generalize p.toNat = c0 at h0 y0 HE ⊢
  generalize q.toNat = c1 at h1 y1 HE ⊢
  generalize r.toNat = c2 at h2 y2 HE ⊢
  generalize t.toNat = c3 at h3 y3 HE ⊢
  clear HE
  go_enter Try.func21, Try.ntmps21
  go_wp2
  go_quiet (fail)
  go_wp2
  go_ret
  refine ⟨?_, _, rfl⟩
  show Ending.returned (Value.int .u32 _) = _
  rw [word_bits y0 y1 y2 y3]

/-- the length at the head of what a slice shows -/
theorem vlengthOf_any (a : Option Addr) (l : List UInt8) (c : Nat) (w : World) (hl : l.length = 4) (hs : Shows w a l) :
    Calls Try.prog 21 #[.slice a 4 c] w fun e w' => e = .returned (.int .u32 ((be4 l : Nat) : Int)) ∧ ∃ m, w' = w.drewN m := by
  match l, hl with
  | [p, q, r, t], _ =>
    obtain ⟨b, off, rfl, -, hc⟩ := hs (by simp)
    exact vlengthOf_at b off c p q r t w (hc 0 (Nat.zero_lt_succ _)) (hc 1 (by simp)) (hc 2 (by simp)) (hc 3 (by simp))

theorem pk4_cells {n : Nat} (hn : n < 4294967296) : bcells (pk4 n) = [.int .u8 ((n : Int) / 16777216), .int .u8 ((n : Int) / 65536 % 256), .int .u8 ((n : Int) / 256 % 256), .int .u8 ((n : Int) % 256)] := by
  have e1 : (UInt8.ofNat (n % 256)).toNat = n % 256 := by simp
  have e2 : (UInt8.ofNat (n / 256 % 256)).toNat = n / 256 % 256 := by simp
  have e3 : (UInt8.ofNat (n / 65536 % 256)).toNat = n / 65536 % 256 := by simp
  have e4 : (UInt8.ofNat (n / 16777216)).toNat = n / 16777216 := by simp; omega
  have c1 : ((n % 256 : Nat) : Int) = (n : Int) % 256 := by omega
  have c2 : ((n / 256 % 256 : Nat) : Int) = (n : Int) / 256 % 256 := by omega
  have c3 : ((n / 65536 % 256 : Nat) : Int) = (n : Int) / 65536 % 256 := by omega
  have c4 : ((n / 16777216 : Nat) : Int) = (n : Int) / 16777216 := by omega
  rw [← c1, ← c2, ← c3, ← c4, ← e1, ← e2, ← e3, ← e4]
  rfl

set_option maxHeartbeats 400000 in
theorem vappendLength_any (n : Nat) (base : Nat) (out : Value) (l : List UInt8) (w : World) (hn : n < 4294967296) (hl : l.length ≤ 90000) (ho : OwnB w base out l) (hbase : base ≤ w.heap.size) :
    Calls Try.prog 19 #[out, .int .u32 (n : Int)] w fun e w' => ∃ v, e = .returned v ∧ OwnB w' base v (l ++ pk4 n) ∧ Below base w w' := by
  have HO : Hid (OwnB w base out l) := ho
  have HC : Hid (bcells (pk4 n) = [.int .u8 ((n : Int) / 16777216), .int .u8 ((n : Int) / 65536 % 256), .int .u8 ((n : Int) / 256 % 256), .int .u8 ((n : Int) % 256)]) := pk4_cells hn
  clear ho
  go_enter Try.func19, Try.ntmps19
  go_wp2_with (at_builtin; go_must (refine wpList_four rfl _ _ rfl base out l w (pk4 n) 4 #[.int .u8 ((n : Int) / 16777216), .int .u8 ((n : Int) / 65536 % 256), .int .u8 ((n : Int) / 256 % 256), .int .u8 ((n : Int) % 256)] HC.out.symm rfl rfl HO.out _ rfl rfl (by omega) (by omega) ?_))
  intro v1 w1 ho1 hb1
  go_wp2
  go_ret
  exact ⟨_, rfl, ho1, hb1⟩

set_option maxRecDepth 100000 in
set_option maxHeartbeats 1000000 in
theorem vPacket_any (b : ByteArray) (w : World) : Calls Try.prog 14 #[.string b] w fun e w' => e = .returned (.tuple #[.string (packS b), .int .i64 (packE b)]) ∧ Below w.heap.size w w' := by
  by_cases h : b.size ≤ 65536
  · have HP : Hid (packS b = bytesOf (packet b.data.toList) ∧ packE b = 0) := (by unfold packS packE; rw [if_pos h, if_pos h]; exact ⟨rfl, rfl⟩ : _ ∧ _)
    rw [HP.out.1, HP.out.2]
    obtain ⟨u, hmk, ho, hbu⟩ := made_own w w.heap.size (4 + b.size) (by omega) (Nat.le_refl _)
    rw [show ((4 + b.size : Nat) : Int) = 4 + (b.size : Int) by omega] at hmk
    obtain ⟨c, hc⟩ : ∃ c, 4 + b.size = c := ⟨_, rfl⟩
    rw [hc] at hmk ho
    have HO : Hid (OwnB u w.heap.size (.slice (some ⟨w.heap.size, 0, none⟩) 0 c) []) := ho
    have h' : ¬ (65536 < (b.size : Int)) := by omega
    have hx : ((b.size : Nat) : Int) % 4294967296 = b.size := by omega
    have hz := hbu.size
    obtain ⟨L1, hL1⟩ : ∃ L, pk4 b.size = L := ⟨_, rfl⟩
    obtain ⟨L2, hL2⟩ : ∃ L, L1 ++ b.data.toList = L := ⟨_, rfl⟩
    have l1 : L1.length = 4 := by rw [← hL1]; rfl
    have HA1 : Hid (∀ w0 : World, ∀ v base, OwnB w0 base v [] → base ≤ w0.heap.size → Calls Try.prog 19 #[v, .int .u32 (b.size : Int)] w0 fun e w' => ∃ v, e = .returned v ∧ OwnB w' base v L1 ∧ Below base w0 w') := fun w0 v base hv hb0 => by
      have := vappendLength_any b.size base v [] w0 (by omega) (by simp) hv hb0
      rw [List.nil_append, hL1] at this
      exact this
    have HL2 : Hid (L1 ++ b.data.toList = L2) := hL2
    have HP2 : Hid (packet b.data.toList = L2) := (by rw [← hL2, ← hL1]; rfl : _ = _)
    rw [HP2.out]
    clear ho hL1 hL2 hc HP
    go_enter Try.func14, Try.ntmps14
    go_wp2_with (first
      | (go_at_call 19; go_must (refine (HA1.out _ _ _ HO.out (by omega)).mono ?_; rintro e w1 ⟨v1, rfl, ho1, hb1⟩; have HO1 : Hid (OwnB w1 w.heap.size v1 L1) := ho1; have hz1 := hb1.size; clear ho1))
      | (at_builtin; go_must (refine Go.Proofs.Ytddbacphlbaohaa.wpList_text rfl _ _ rfl w.heap.size v1 L1 w1 rfl HO1.out b rfl (by omega) (by omega) ?_)))
    rw [HL2.out]
    intro v2 w2 ho2 hb2
    have hc2 := ho2.str
    clear ho2
    go_wp2_with fail
    go_ret2
    exact ⟨rfl, (hbu.trans hb1).trans hb2⟩
  · have HP : Hid (packS b = .empty ∧ packE b = 2) := (by unfold packS packE; rw [if_neg h, if_neg h]; exact ⟨rfl, rfl⟩ : _ ∧ _)
    rw [HP.out.1, HP.out.2]
    have h' : (65536 : Int) < b.size := by omega
    clear HP
    go_enter Try.func14, Try.ntmps14
    go_wp2
    go_ret2
    exact ⟨rfl, Below.refl _ _⟩

theorem sizeByte : (Try.prog.info? 5).map (·.size) = some 1 := by kernel_rfl

theorem splice_all {α : Type} (M X : List α) (h : M.length = X.length) : splice M 0 X = X := by
  simp [splice, ← h]

set_option maxHeartbeats 400000 in
theorem vkept_any (a : Option Addr) (l : List UInt8) (n c : Nat) (w : World) (hn : l.length = n) (hs : Shows w a l) (hl : n ≤ 1000000) :
    Calls Try.prog 18 #[.slice a n c] w fun e w' => ∃ v, e = .returned v ∧ OwnB w' w.heap.size v l ∧ Below w.heap.size w w' := by
  obtain ⟨M, hM, hmk⟩ := made_full n (by omega)
  have HS : Hid (Shows w a l) := hs
  have HN : Hid (l.length = n) := hn
  have HM : Hid (M.length = n) := hM
  obtain ⟨X, hX⟩ : ∃ X, X = bcells l := ⟨_, rfl⟩
  have HX : Hid (X = bcells l) := hX
  have HXL : Hid (X.length = n) := (by rw [HX.out, bcells_length, HN.out] : _ = _)
  have HPos : Hid (0 < X.length → ∃ ad, a = some ad ∧ ∀ j v, X[j]? = some v → (w.alloc (.cells M.toArray 5)).cell? (ad.add j) = some v) := fun hp => by
    have hne : l ≠ [] := fun e => by rw [HXL.out, ← HN.out, e] at hp; cases hp
    obtain ⟨b, off, e, hlt, hc⟩ := HS.out hne
    refine ⟨_, e, fun j v hj => ?_⟩
    rw [HX.out] at hj
    have hj2 : j < l.length := by
      have := (List.getElem?_eq_some_iff.1 hj).1
      rwa [bcells_length] at this
    rw [bcells_get hj2] at hj
    cases hj
    rw [Addr.add_lit]
    refine Eq.trans ?_ (hc j hj2)
    show (w.alloc _).cell? _ = _
    unfold World.cell?
    rw [Below.heap_alloc w _ b hlt]
  have hB : Below w.heap.size w (w.alloc (.cells M.toArray 5)) := (Below.refl _ _).alloc (Nat.le_refl _) _
  have HB : Hid (Below w.heap.size w (w.alloc (.cells M.toArray 5))) := hB
  have HG : Hid ((w.alloc (.cells M.toArray 5)).heap[w.heap.size]? = some (.cells M.toArray 5 (0, 0))) := heap_new w _
  have HO : Hid (∀ v ∈ X, v.oneCell' = true) := fun v hv => by
    rw [HX.out] at hv
    obtain ⟨c, -, rfl⟩ := List.mem_map.1 hv
    rfl
  clear hs hn hM hX hB
  go_enter Try.func18, Try.ntmps18
  go_wp2_with ((refine wpList_copy_splice rfl (.tmp 7) (.tmp 8) 43 43 rfl 5 Try.underlying43 sizeByte _ _ n n n c rfl rfl w.heap.size 0 M 5 HG.out X (by rw [HXL.out]; exact (Nat.min_self n).symm) (fun hp => ⟨rfl, HPos.out hp⟩) (by rw [HXL.out, HM.out]; omega) HO.out w.heap.size w HB.out (Nat.le_refl _) ?_))
  intro w2 HG2 hB2
  go_wp2_with fail
  go_ret
  refine ⟨_, rfl, ?_, hB2⟩
  have hg := HG2.out
  rw [splice_all M X (by rw [HM.out, HXL.out]), HX.out] at hg
  refine ⟨by rw [bcells_length, Nat.mul_one], .inr ⟨w.heap.size, n, _, by rw [HN.out]; rfl, Nat.le_refl _, hg, by rw [HN.out]; exact Nat.le_refl _, by unfold maxLen; omega, ?_, ?_⟩⟩
  · rw [List.size_toArray, bcells_length, HN.out, Nat.mul_one]
  · rw [Nat.mul_one]
    exact List.take_of_length_le (by rw [Array.length_toList, List.size_toArray, bcells_length]; exact Nat.le_refl _)

/-- where a reader lies -/
def RdAt (w : World) (g : Nat) (v : Value) (r : Rd) : Prop := w.heap[g]? = some (.cells #[v, .bool r.ill] 46 (0, 0)) ∧ OwnB w 0 v r.kept ∧ v.ownBlock ≠ some g

def RdI (g : Nat) (r : Rd) (w : World) (F : Nat → Prop) : Prop := ∃ v, RdAt w g v r ∧ ∀ i, F i ↔ (i = g ∨ v.ownBlock = some i)

theorem RdI.res (g : Nat) (r : Rd) : Res (RdI g r) := by
  refine ⟨fun {w F} h i hi => ?_, fun {w w' F S} h ht hS => ?_⟩
  · obtain ⟨v, ⟨h1, h2, h3⟩, hF⟩ := h
    rcases (hF i).1 hi with rfl | h
    · exact lt_of h1
    · exact (World.ownsRow.lt h2 i h).2
  · obtain ⟨v, ⟨h1, h2, h3⟩, hF⟩ := h
    refine ⟨v, ⟨(ht.block g (lt_of h1) (hS g ((hF g).2 (Or.inl rfl)))).trans h1, ownsRow_block h2 fun i hi => ?_, h3⟩, hF⟩
    exact ht.block i (World.ownsRow.lt h2 i hi).2 (hS i ((hF i).2 (Or.inr hi)))

theorem vNew_any (w : World) : Calls Try.prog 7 #[] w fun e w' => ∃ g F, e = .returned (.pointer (some ⟨g, 0, none⟩)) ∧ RdI g ⟨[], false⟩ w' F ∧ (∀ i, F i → w.heap.size ≤ i) ∧ Below w.heap.size w w' := by
  go_enter Try.func7, Try.ntmps7
  go_wp2
  go_ret
  refine ⟨w.heap.size, fun i => i = w.heap.size, rfl, ⟨.slice none 0 0, ⟨heap_new w _, OwnB.nil _ _, fun h => by cases h⟩, fun i => ⟨fun h => Or.inl h, fun h => ?_⟩⟩, fun i hi => by rw [hi]; exact Nat.le_refl _, (Below.refl _ _).alloc (Nat.le_refl _) _⟩
  rcases h with h | h
  · exact h
  · cases h

theorem vLeft_any (g : Nat) (r : Rd) (w : World) (F : Nat → Prop) (h : RdI g r w F) : Calls Try.prog 12 #[.pointer (some ⟨g, 0, none⟩)] w fun e w' => e = .returned (.int .i64 (r.kept.length : Int)) ∧ ∃ n, w' = w.drewN n := by
  obtain ⟨v, ⟨h1, h2, -⟩, -⟩ := h
  obtain ⟨a, c, rfl, -⟩ := h2.shape
  have q0 : w.cell? ⟨g, 0, none⟩ = some (.slice a r.kept.length c) := cell_of h1 0
  clear h1 h2
  go_enter Try.func12, Try.ntmps12
  go_wp2
  go_ret
  exact ⟨rfl, 0, rfl⟩

theorem vBad_any (g : Nat) (r : Rd) (w : World) (F : Nat → Prop) (h : RdI g r w F) : Calls Try.prog 13 #[.pointer (some ⟨g, 0, none⟩)] w fun e w' => e = .returned (.bool r.ill) ∧ ∃ n, w' = w.drewN n := by
  obtain ⟨v, ⟨h1, h2, -⟩, -⟩ := h
  have q0 : w.cell? ⟨g, 1, none⟩ = some (.bool r.ill) := cell_of h1 1
  clear h1 h2
  go_enter Try.func13, Try.ntmps13
  go_wp2
  go_ret
  exact ⟨rfl, 0, rfl⟩

end Go.Proofs.Ytddbacphlbaohaa
