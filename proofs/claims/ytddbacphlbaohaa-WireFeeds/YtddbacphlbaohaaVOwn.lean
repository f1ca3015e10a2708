/- The program's readers keep what is asked of readers. -/
import Derived.Test.YtddbacphlbaohaaVSplit
import Derived.Test.YtddbacphlbaohaaVKit
namespace Go.Proofs.Ytddbacphlbaohaa
open Go.RowKit

/-- what a feed comes to -/
def Fed (g : Nat) (r : Rd) (b : ByteArray) (w : World) (F : Nat → Prop) (e : Ending) (w' : World) : Prop :=
  ∃ v F', e = .returned (.tuple #[v, .int .i64 (feedE r b.data.toList)]) ∧ RowS w' w.heap.size v (feedB r b.data.toList) ∧ RdI g (feedR r b.data.toList) w' F' ∧ Turn F w w' ∧ (∀ i, F' i → F i ∨ w.heap.size ≤ i) ∧ ∀ i, v.ownBlock = some i → ¬ F' i

theorem RowS.empty (w : World) (base : Nat) : RowS w base (.slice none 0 0) [] := ⟨none, 0, rfl, Nat.le_refl _, Nat.zero_le _, fun _ => rfl, fun h => absurd rfl h⟩

theorem vFeed_ill (g : Nat) (k : List UInt8) (b : ByteArray) (w : World) (F : Nat → Prop) (h : RdI g ⟨k, true⟩ w F) : Calls Try.prog 9 #[.pointer (some ⟨g, 0, none⟩), .string b] w (Fed g ⟨k, true⟩ b w F) := by
  have HI : Hid (RdI g ⟨k, true⟩ w F) := h
  obtain ⟨v, ⟨h1, h2, -⟩, -⟩ := h
  have q1 : w.cell? ⟨g, 1, none⟩ = some (.bool true) := cell_of h1 1
  clear h1 h2
  go_enter Try.func9, Try.ntmps9
  go_wp2
  go_ret2
  exact ⟨.slice none 0 0, F, rfl, RowS.empty _ _, HI.out, Turn.refl _ _, fun i hi => Or.inl hi, fun i hi => by cases hi⟩

theorem vFeed_long (g : Nat) (k : List UInt8) (b : ByteArray) (w : World) (F : Nat → Prop) (h : RdI g ⟨k, false⟩ w F) (hb : 262144 < b.size) : Calls Try.prog 9 #[.pointer (some ⟨g, 0, none⟩), .string b] w (Fed g ⟨k, false⟩ b w F) := by
  have HI : Hid (RdI g ⟨k, false⟩ w F) := h
  obtain ⟨v, ⟨h1, h2, -⟩, -⟩ := h
  have q1 : w.cell? ⟨g, 1, none⟩ = some (.bool false) := cell_of h1 1
  have hb' : (262144 : Int) < b.size := by omega
  have hb2 : 262144 < b.data.toList.length := hb
  have HF : Hid (feedE ⟨k, false⟩ b.data.toList = 2 ∧ feedB ⟨k, false⟩ b.data.toList = [] ∧ feedR ⟨k, false⟩ b.data.toList = ⟨k, false⟩) := ⟨by simp only [feedE, if_pos hb2]; rfl, by simp only [feedB, if_pos hb2]; rfl, by simp only [feedR, if_pos hb2]; rfl⟩
  clear h1 h2 hb2
  go_enter Try.func9, Try.ntmps9
  go_wp2
  go_ret2
  obtain ⟨f1, f2, f3⟩ := HF.out
  refine ⟨.slice none 0 0, F, by rw [f1]; rfl, ?_, ?_, Turn.refl _ _, fun i hi => Or.inl hi, fun i hi => by cases hi⟩
  · rw [f2]
    exact RowS.empty _ _
  · rw [f3]
    exact HI.out

/-- a reader's cells are written anew -/
theorem RdI.store {w0 w : World} {g : Nat} {F : Nat → Prop} {v : Value} {x : Value} {i1 : Bool} (hg : w.heap[g]? = some (.cells #[x, .bool i1] 46 (0, 0))) {l : List UInt8} (ho : OwnB w 0 v l) (hv : v.ownBlock ≠ some g) (ht : Turn F w0 w) (hF : F g) :
    (RdI g ⟨l, i1⟩ (w.setCell ⟨g, 0, none⟩ v) fun i => i = g ∨ v.ownBlock = some i) ∧ Turn F w0 (w.setCell ⟨g, 0, none⟩ v) := by
  have h1 := heap_setCell_same hg 0 v
  refine ⟨⟨v, ⟨h1, ownsRow_block ho fun i hi => ?_, hv⟩, fun i => Iff.rfl⟩, ht.trans (Turn.setCell w ⟨g, 0, none⟩ v hF)⟩
  exact Below.heap_setCell w ⟨g, 0, none⟩ v i (fun e => hv (by rw [hi, e]))

/-- what split comes to -/
def SplitR (l : List UInt8) (N : Nat) (E : Int) (C : Cut) (w : World) (e : Ending) (w' : World) : Prop :=
  ∃ (v : Value) (t : Nat), e = .returned (.tuple #[v, .int .i64 (t : Int), .int .i64 E]) ∧ w'.ownsRow w.heap.size 9 1 v C.bodies.length (C.bodies.map Go.Proofs.encStr) ∧ Below w.heap.size w w' ∧ t ≤ N ∧ (C.bad = false → C.rest = l.drop t)

set_option maxRecDepth 100000 in
set_option maxHeartbeats 1000000 in
theorem vFeed_main (g : Nat) (k : List UInt8) (b : ByteArray) (w : World) (F : Nat → Prop) (h : RdI g ⟨k, false⟩ w F) (hk : k.length < 65540) (hb : b.size ≤ 262144) : Calls Try.prog 9 #[.pointer (some ⟨g, 0, none⟩), .string b] w (Fed g ⟨k, false⟩ b w F) := by
  obtain ⟨v0, ⟨h1, h2, h3⟩, hF⟩ := h
  have HF : Hid (∀ i, F i ↔ (i = g ∨ v0.ownBlock = some i)) := hF
  have HV : Hid (v0.ownBlock ≠ some g) := h3
  obtain ⟨a0, c0, rfl, -⟩ := h2.shape
  have HO : Hid (OwnB w 0 (.slice a0 k.length c0) k) := h2
  have HG : Hid (w.heap[g]? = some (.cells #[.slice a0 k.length c0, .bool false] 46 (0, 0))) := h1
  have q0 : w.cell? ⟨g, 0, none⟩ = some (.slice a0 k.length c0) := cell_of h1 0
  have q1 : w.cell? ⟨g, 1, none⟩ = some (.bool false) := cell_of h1 1
  have hgl : g < w.heap.size := lt_of h1
  have hb' : ¬ ((262144 : Int) < b.size) := by omega
  have hb2 : ¬ (262144 < b.data.toList.length) := by show ¬ (262144 < b.size); omega
  obtain ⟨l, hl⟩ : ∃ l, k ++ b.data.toList = l := ⟨_, rfl⟩
  have HL : Hid (k ++ b.data.toList = l) := hl
  have HLL : Hid (l.length = k.length + b.size) := (by rw [← hl, List.length_append]; rfl : _ = _)
  have HFE : Hid (feedE ⟨k, false⟩ b.data.toList = (if (cut l).bad then 70 else 0) ∧ feedB ⟨k, false⟩ b.data.toList = (cut l).bodies ∧ feedR ⟨k, false⟩ b.data.toList = ⟨(cut l).rest, (cut l).bad⟩) :=
    ⟨by simp only [feedE, if_neg hb2, hl]; rfl, by simp only [feedB, if_neg hb2, hl]; rfl, by simp only [feedR, if_neg hb2, hl]; rfl⟩
  have HBR : Hid ((cut l).bad = true → (cut l).rest = []) := (cut_left _ l (Nat.le_refl _)).2.1
  clear h1 h2 h3 hF hl hb2
  unfold Fed
  rw [HFE.out.1, HFE.out.2.1, HFE.out.2.2]
  obtain ⟨C, hC⟩ : ∃ C, cut l = C := ⟨_, rfl⟩
  obtain ⟨E, hE⟩ : ∃ E : Int, (if C.bad = true then 70 else 0) = E := ⟨_, rfl⟩
  have HSP : Hid (∀ (a0 : Option Addr) (N c : Nat) (w : World) (hN : l.length = N) (hs : Shows w a0 l) (hNc : N ≤ c) (hc : c ≤ maxLen) (hl : N ≤ 1000000), Calls Try.prog 17 #[.slice a0 N c] w (SplitR l N E C w)) := fun a0 N c w hN hs hNc hc hl => by
    subst hC hE
    exact vsplit_any a0 l N c w hN hs hNc hc hl
  rw [hC] at HBR ⊢
  rw [hE]
  have HE : Hid ((if C.bad = true then 70 else 0) = E) := hE
  obtain ⟨Bs, Rs, bd⟩ := C
  dsimp only at HBR HE ⊢
  clear HFE hC hE
  go_enter Try.func9, Try.ntmps9
  go_wp2_with (at_builtin; go_must (refine wpList_text_at rfl _ _ rfl (.slice a0 k.length c0) k w rfl HO.out b rfl (by omega) ?_))
  rw [HL.out]
  intro a1 c1 w1 ho1 hgr1 hpl1
  obtain ⟨N, hN⟩ : ∃ N, k.length + b.size = N := ⟨_, rfl⟩
  rw [hN] at ho1 hpl1 ⊢
  have HN : Hid (l.length = N) := HLL.out.trans hN
  have hN2 : N ≤ 1000000 := by omega
  have HO1 : Hid (OwnB w1 0 (.slice a1 N c1) l) := ho1
  have HPL : Hid (∀ i, (Value.slice a1 N c1).ownBlock = some i → (Value.slice a0 k.length c0).ownBlock = some i ∨ w.heap.size ≤ i) := hpl1
  have HT1 : Hid (Turn F w w1) := Turn.ofGrown hgr1 fun i hi => (HF.out i).2 (Or.inr hi)
  have HG1 : Hid (w1.heap[g]? = some (.cells #[.slice a0 k.length c0, .bool false] 46 (0, 0))) := (hgr1.block g hgl (fun e => HV.out e.symm)).trans HG.out
  have HV1 : Hid ((Value.slice a1 N c1).ownBlock ≠ some g) := fun e => by
    rcases HPL.out g e with h | h
    · exact HV.out h
    · omega
  have hs1 : w.heap.size ≤ w1.heap.size := HT1.out.size
  have HC1 : Hid (N ≤ c1 ∧ c1 ≤ maxLen ∧ Shows w1 a1 l) := by
    obtain ⟨a', c', e, e1, e2, e3⟩ := ho1.shape
    rw [HN.out] at e e1
    obtain ⟨rfl, rfl⟩ : a1 = a' ∧ c1 = c' := by simpa using e
    exact ⟨e1, e2, e3⟩
  clear ho1 hpl1 hgr1 hN
  go_wp2_with (go_at_call 17; go_must (refine (HSP.out a1 N c1 w1 HN.out HC1.out.2.2 HC1.out.1 HC1.out.2.1 hN2).mono ?_))
  rintro e w2 ⟨v2, t, rfl, hrow2, hb2, ht, hrest⟩
  dsimp only at hrow2 hrest
  have HR2 : Hid (w2.ownsRow w1.heap.size 9 1 v2 Bs.length (Bs.map Go.Proofs.encStr)) := hrow2
  have HB2 : Hid (Below w1.heap.size w1 w2) := hb2
  have HRT : Hid (bd = false → Rs = l.drop t) := hrest
  have hs2 : w1.heap.size ≤ w2.heap.size := hb2.size
  have HG2 : Hid (w2.heap[g]? = some (.cells #[.slice a0 k.length c0, .bool false] 46 (0, 0))) := (hb2.block g (lt_of HG1.out)).trans HG1.out
  have HO2 : Hid (OwnB w2 0 (.slice a1 N c1) l) := HO1.out.kept hb2
  have HT2 : Hid (Turn F w w2) := HT1.out.trans (Turn.ofBelow _ hb2)
  have HFg : Hid (F g) := (HF.out g).2 (Or.inl rfl)
  have HBK : Hid (∀ i, v2.ownBlock = some i → w1.heap.size ≤ i ∧ i < w2.heap.size) := fun i hi => HR2.out.lt i hi
  have HA1 : Hid (∀ i, (Value.slice a1 N c1).ownBlock = some i → i < w1.heap.size) := fun i hi => (World.ownsRow.lt HO1.out i hi).2
  -- the row of bodies behind all
  have HRow : Hid (∀ w', Turn (fun i => i = g) w2 w' → RowS w' w.heap.size v2 Bs) := fun w' ht' => by
    have h1 : w'.ownsRow w1.heap.size 9 1 v2 Bs.length (Bs.map Go.Proofs.encStr) := ownsRow_block HR2.out fun i hi => ht'.block i (HBK.out i hi).2 (fun e => by
      have := (HBK.out i hi).1
      have := lt_of HG1.out
      omega)
    obtain ⟨a, c, e1, e2, e3, e4, e5⟩ := RowS.of_row h1
    exact ⟨a, c, e1, e2, e3, e4, fun hne => by
      obtain ⟨bk, off, CC, x1, x2, x3, x4⟩ := e5 hne
      exact ⟨bk, off, CC, x1, Nat.le_trans hs1 x2, x3, x4⟩⟩
  have p0 : w2.cell? ⟨g, 0, none⟩ = some (.slice a0 k.length c0) := cell_of HG2.out 0
  have p1 : w2.cell? ⟨g, 1, none⟩ = some (.bool false) := cell_of HG2.out 1
  have p2 := frozen_of HG2.out 0
  have p3 := frozen_of HG2.out 1
  clear hrow2 hb2 hrest
  cases bd with
  | true =>
    obtain rfl : E = 70 := HE.out.symm
    go_wp2_with fail
    go_ret2
    obtain rfl : Rs = [] := HBR.out trivial
    have h1 := heap_setCell_same HG2.out 0 (.slice none 0 0)
    have h2 := heap_setCell_same h1 1 (.bool true)
    have t1 : Turn (fun i => i = g) w2 ((w2.setCell ⟨g, 0, none⟩ (.slice none 0 0)).setCell ⟨g, 1, none⟩ (.bool true)) := Turn.trans (S := fun i => i = g) (Turn.setCell (S := fun i => i = g) w2 ⟨g, 0, none⟩ _ rfl) (Turn.setCell (S := fun i => i = g) _ ⟨g, 1, none⟩ _ rfl)
    refine ⟨v2, fun i => i = g, rfl, HRow.out _ t1, ⟨.slice none 0 0, ⟨h2, OwnB.nil _ _, fun h => by cases h⟩, fun i => ⟨fun h => Or.inl h, fun h => ?_⟩⟩, HT2.out.trans (t1.mono fun i hi => by rw [hi]; exact HFg.out), fun i hi => Or.inl (by rw [hi]; exact HFg.out), fun i hi e => ?_⟩
    · rcases h with h | h
      · exact h
      · cases h
    · have := (HBK.out i hi).1
      have := lt_of HG1.out
      omega
  | false =>
    obtain rfl : E = 0 := HE.out.symm
    by_cases h0 : t = 0
    · subst h0
      go_wp2_with fail
      go_ret2
      obtain rfl : Rs = l := HRT.out trivial
      obtain ⟨x1, x2⟩ := RdI.store HG2.out HO2.out HV1.out HT2.out HFg.out
      have t1 : Turn (fun i => i = g) w2 (w2.setCell ⟨g, 0, none⟩ (.slice a1 N c1)) := Turn.setCell w2 ⟨g, 0, none⟩ _ rfl
      refine ⟨v2, _, rfl, HRow.out _ t1, x1, x2, fun i hi => ?_, fun i hi e => ?_⟩
      · rcases hi with rfl | hi
        · exact Or.inl HFg.out
        · rcases HPL.out i hi with h | h
          · exact Or.inl ((HF.out i).2 (Or.inr h))
          · exact Or.inr h
      · have y1 := (HBK.out i hi).1
        rcases e with rfl | e
        · have := lt_of HG1.out
          omega
        · have := HA1.out i e
          omega
    · have h0'' : ¬ ((t : Int) = 0) := by omega
      have k1 := run_rest a1 N c1 t ht
      obtain ⟨A, hA⟩ : ∃ A, (if c1 = t then a1 else a1.map (·.add t)) = A := ⟨_, rfl⟩
      simp only [hA] at k1
      have HK : Hid (Calls Try.prog 18 #[.slice A (N - t) (c1 - t)] w2 fun e w' => ∃ v, e = .returned v ∧ OwnB w' w2.heap.size v (l.drop t) ∧ Below w2.heap.size w2 w') := by
        have h1 := (HC1.out.2.2.kept HB2.out).part c1 t (N - t) (by rw [HN.out]; exact HC1.out.1)
        rw [hA, List.take_of_length_le (by rw [List.length_drop, HN.out]; exact Nat.le_refl _)] at h1
        exact vkept_any A (l.drop t) (N - t) (c1 - t) w2 (by rw [List.length_drop, HN.out]) h1 (by omega)
      have HG3 : Hid (∀ w3, Below w2.heap.size w2 w3 → w3.heap[g]? = some (.cells #[.slice a0 k.length c0, .bool false] 46 (0, 0))) := fun w3 hb => keep HG2.out hb
      clear hA p0 p1 p2 p3
      go_wp2_with (go_at_call 18; go_must (refine (HK.out).mono ?_; rintro e w3 ⟨v3, rfl, ho3, hb3⟩; have HO3 : Hid (OwnB w3 w2.heap.size v3 (l.drop t)) := ho3; have p0 : w3.cell? ⟨g, 0, none⟩ = some (.slice a0 k.length c0) := cell_of (HG3.out w3 hb3) 0; have p1 := frozen_of (HG3.out w3 hb3) 0; clear ho3; obtain ⟨a3, c3, rfl, -⟩ := HO3.out.shape))
      go_ret2
      obtain rfl : Rs = l.drop t := HRT.out trivial
      have hv3 : ∀ i, (Value.slice a3 (l.drop t).length c3).ownBlock = some i → w2.heap.size ≤ i := fun i hi => (World.ownsRow.lt HO3.out i hi).1
      obtain ⟨x1, x2⟩ := RdI.store (HG3.out w3 hb3) (ownsRow_zero HO3.out) (fun e => by have := hv3 g e; have := lt_of HG2.out; omega) (HT2.out.trans (Turn.ofBelow _ hb3)) HFg.out
      have t1 : Turn (fun i => i = g) w2 (w3.setCell ⟨g, 0, none⟩ (.slice a3 (l.drop t).length c3)) := Turn.trans (S := fun i => i = g) (Turn.ofBelow _ hb3) (Turn.setCell (S := fun i => i = g) w3 ⟨g, 0, none⟩ _ rfl)
      rw [List.length_drop] at t1 x1 x2 hv3
      refine ⟨v2, _, rfl, HRow.out _ t1, x1, x2, fun i hi => ?_, fun i hi e => ?_⟩
      · rcases hi with rfl | hi
        · exact Or.inl HFg.out
        · exact Or.inr (Nat.le_trans hs1 (Nat.le_trans hs2 (hv3 i hi)))
      · have y1 := HBK.out i hi
        rcases e with rfl | e
        · have := lt_of HG1.out
          omega
        · have := hv3 i e
          omega

theorem vFeed_any (g : Nat) (r : Rd) (b : ByteArray) (w : World) (F : Nat → Prop) (h : RdI g r w F) (hk : r.kept.length < 65540) : Calls Try.prog 9 #[.pointer (some ⟨g, 0, none⟩), .string b] w (Fed g r b w F) := by
  obtain ⟨k, i⟩ := r
  cases i with
  | true => exact vFeed_ill g k b w F h
  | false =>
    by_cases hb : 262144 < b.size
    · exact vFeed_long g k b w F h hb
    · exact vFeed_main g k b w F h hk (by omega)

/-- the program's readers -/
def theKit : Kit where
  I := RdI
  res := RdI.res
  new := vNew_any
  feed := vFeed_any
  left := vLeft_any
  bad := vBad_any
  packet := vPacket_any

end Go.Proofs.Ytddbacphlbaohaa
