import Derived.Test.YtnboanlhdllhnaaGreatZRc
import Derived.Test.YtnboanlhdllhnaaGreatZCp
import Derived.Test.YtnboanlhdllhnaaGreatZFind
import Derived.Test.YtnboanlhdllhnaaGreatZRdec
/- The document's place of a name, and what it says of lists by names. -/
namespace Go.Proofs.YtnboanlhdllhnaaGreat
open Go.RowKit

/-- where a name stands, or would; whether it does -/
structure Plc (L : Cat) (k : List UInt8) (i : Nat) (there : Bool) : Prop where
  le : i ≤ L.length
  bef : ∀ p ∈ L.take i, bytesBefore p.1 k = true
  stop : ∀ p, L[i]? = some p → bytesBefore p.1 k = false
  is : there = true ↔ ∃ p, L[i]? = some p ∧ p.1 = k

theorem insL_split {α : Type} {k : List UInt8} {a : α} : ∀ {A B : List (List UInt8 × α)}, (∀ p ∈ A, bytesBefore p.1 k = true) → (∀ p, B[0]? = some p → bytesBefore k p.1 = true) → Dk.insL (k, a) (A ++ B) = A ++ (k, a) :: B
  | [], [], _, _ => rfl
  | [], y :: r, _, h => by
    show Dk.insL (k, a) (y :: r) = _
    unfold Dk.insL
    rw [if_pos (h y rfl)]
    rfl
  | y :: A, B, h, h' => by
    show Dk.insL (k, a) (y :: (A ++ B)) = _
    unfold Dk.insL
    rw [if_neg (by rw [before_asym (h y (List.mem_cons_self ..))]; decide), insL_split (fun p hp => h p (List.mem_cons_of_mem _ hp)) h']
    rfl
theorem before_tot {a b : List UInt8} (h : bytesBefore a b = false) (hn : a ≠ b) : bytesBefore b a = true := by
  rw [Dk.before_less] at h ⊢
  rcases bl_total a b with k | k | k
  · rw [k] at h; cases h
  · exact absurd k hn
  · exact k
section
variable {L : Cat} {k : List UInt8} {i : Nat}
theorem Plc.no (h : Plc L k i false) (hr : Dk.Rise L) : Dk.getL k L = none ∧ Dk.delL k L = L ∧ ∀ T : Tab, Dk.putL k T L = L.take i ++ (k, T) :: L.drop i := by
  have hne : ∀ p ∈ L, p.1 ≠ k := fun p hp e => by
    rw [← List.take_append_drop i L] at hp hr
    rcases List.mem_append.1 hp with hp | hp
    · have := h.bef p hp
      rw [e, before_irr] at this; cases this
    · cases hd : L.drop i with
      | nil => rw [hd] at hp; cases hp
      | cons y r =>
        have hy : L[i]? = some y := by
          have : (L.drop i)[0]? = some y := by rw [hd]; rfl
          rw [List.getElem?_drop] at this
          exact this
        rw [hd] at hp hr
        have hyk : y.1 ≠ k := fun e2 => by
          have := h.is.2 ⟨y, hy, e2⟩
          cases this
        rcases List.mem_cons.1 hp with rfl | hp
        · exact hyk e
        · have h1 := (List.pairwise_cons.1 (List.pairwise_append.1 hr).2.1).1 p hp
          rw [e] at h1
          have h2 := h.stop y hy
          rw [h1] at h2; cases h2
  refine ⟨?_, Dk.delL_other hne, fun T => ?_⟩
  · cases hg : Dk.getL k L with
    | none => rfl
    | some a => exact absurd rfl (hne _ (Dk.getL_mem hg))
  · unfold Dk.putL
    rw [Dk.delL_other hne]
    conv => lhs; rw [← List.take_append_drop i L]
    refine insL_split h.bef fun p hp => ?_
    rw [List.getElem?_drop] at hp
    exact before_tot (h.stop p hp) (hne p (List.mem_of_getElem? hp))
theorem Plc.yes (h : Plc L k i true) (hr : Dk.Rise L) : ∃ p, L[i]? = some p ∧ p.1 = k ∧ Dk.getL k L = some p.2 ∧ Dk.delL k L = L.take i ++ L.drop (i + 1) := by
  obtain ⟨p, hp, hk⟩ := h.is.1 rfl
  have hd : L.drop i = p :: L.drop (i + 1) := by
    obtain ⟨hi, rfl⟩ := List.getElem?_eq_some_iff.1 hp
    exact List.drop_eq_getElem_cons hi
  have hm := List.mem_of_getElem? hp
  refine ⟨p, hp, hk, by rw [← hk]; exact getL_of_mem hr hm, ?_⟩
  have e : L = L.take i ++ p :: L.drop (i + 1) := by rw [← hd, List.take_append_drop]
  have hr2 : Dk.Rise (L.take i ++ p :: L.drop (i + 1)) := by rw [← e]; exact hr
  have h1 : ∀ q ∈ L.take i, q.1 ≠ k := fun q hq e2 => by
    have := h.bef q hq
    rw [e2, before_irr] at this; cases this
  have h2 : ∀ q ∈ L.drop (i + 1), q.1 ≠ k := fun q hq e2 => by
    have := (List.pairwise_cons.1 (List.pairwise_append.1 hr2).2.1).1 q hq
    rw [e2, ← hk, before_irr] at this; cases this
  have f1 := Dk.delL_other h1
  have f2 := Dk.delL_other h2
  conv => lhs; rw [e]
  unfold Dk.delL at f1 f2 ⊢
  rw [List.filter_append, List.filter_cons, f1, f2]
  simp [hk]
end

set_option maxRecDepth 100000 in
set_option maxHeartbeats 2000000 in
theorem place_any {w : World} {c : Nat} {S : Sl} {G : List Ge} (h : RcG w c S G) (k : ByteArray) :
    Calls Tryz.prog 28 #[.pointer (some ⟨c, 0, none⟩), .string k] w fun e w' => ∃ (i : Nat) (there : Bool), e = .returned (.tuple #[.int .i64 (i : Int), .bool there]) ∧ Hid (Plc (catOf G) (kb k) i there ∧ Below w.heap.size w w') := by
  obtain ⟨SA, SN, SC⟩ := S
  have HC : Hid (∀ u, Below w.heap.size w u → u.cell? ⟨c, 0, none⟩ = some (.slice SA SN SC)) := fun u hu => (h.below hu).cell
  have HX : Hid (∀ u, Below w.heap.size w u → ∀ i g, G[i]? = some g → ∃ b off, SA = some ⟨b, off, none⟩ ∧ u.cell? ⟨b, off + i * 4, none⟩ = some (.string g.T.nm)) := fun u hu i g hg => by
    obtain ⟨b, off, e, h0, _⟩ := h.rows u hu i g hg
    exact ⟨b, off, e, h0⟩
  have HL : Hid (G.length = SN) := h.len
  have hfew : SN ≤ 4096 := by have := h.few; have := h.len; dsimp only at this; omega
  have hsc : SN ≤ SC := by
    have hs : SliceAt w (.slice SA SN SC) 4 enG G := own_slice (en := enG) (fun _ => rfl) (by rw [h.len]; exact h.row)
    obtain ⟨a, c', e, h1, _⟩ := hs
    simp only [Value.slice.injEq] at e
    omega
  have HCo : Hid (∀ (i : Nat) (g : Ge), G[i]? = some g → (catOf G)[i]? = some (kb g.T.nm, g.T)) := fun i g hg => by unfold catOf; rw [List.getElem?_map, hg]; rfl
  have HCl : Hid ((catOf G).length = SN) := by show _ = _; unfold catOf; rw [List.length_map]; exact h.len
  clear h
  go_enter Tryz.func28, Tryz.ntmps28
  go_wp2_with fail
  go_loopw [6] (fun v wr => ∃ (j : Nat), j ≤ SN ∧ v = .int .i64 j ∧ Hid ((∀ p ∈ (catOf G).take j, bytesBefore p.1 (kb k) = true) ∧ Below w.heap.size w wr)) (fun v _ => SN - (intOf v).toNat)
  case atStart => exact ⟨0, Nat.zero_le _, rfl, (fun _ h => by simp at h), Below.refl _ _⟩
  case round =>
    obtain ⟨j, hj, rfl, HQ⟩ := hrel
    have q0 := HC.out wr HQ.out.2
    by_cases hlt : j < SN
    · have hlI : (j : Int) < (SN : Int) := by omega
      obtain ⟨g, hg⟩ : ∃ g, G[j]? = some g := ⟨_, List.getElem?_eq_getElem (by rw [HL.out]; exact hlt)⟩
      obtain ⟨b, off, rfl, q1⟩ := HX.out wr HQ.out.2 j g hg
      have HGj : Hid ((catOf G)[j]? = some (kb g.T.nm, g.T)) := HCo.out j g hg
      have HNm : Hid (kb g.T.nm = kb g.T.nm) := (rfl : _ = _)
      obtain ⟨nm, hnm⟩ : ∃ nm, g.T.nm = nm := ⟨_, rfl⟩
      rw [hnm] at q1 HGj
      clear hg hnm HNm
      have hbb : bytesBefore (kb nm) (kb k) = Op.bytesLess nm.toList k.toList := by rw [Dk.before_less, Go.ByteArray.toList_eq, Go.ByteArray.toList_eq]
      by_cases hless : Op.bytesLess nm.toList k.toList = true
      · have HB : Hid (bytesBefore (kb nm) (kb k) = true) := by show _ = _; rw [hbb]; exact hless
        clear hbb
        go_wp2_with fail
        go_roundw
        case rel =>
          refine ⟨j + 1, by omega, by go_num, fun p hp => ?_, HQ.out.2⟩
          rw [List.take_add_one, HGj.out] at hp
          rcases List.mem_append.1 hp with hp | hp
          · exact HQ.out.1 p hp
          · rw [List.mem_singleton.1 hp]; exact HB.out
        case measure => simp [intOf]; omega
      · have hless' : Op.bytesLess nm.toList k.toList = false := by cases hh : Op.bytesLess nm.toList k.toList with | true => exact absurd hh hless | false => rfl
        have HB : Hid (bytesBefore (kb nm) (kb k) = false) := by show _ = _; rw [hbb]; exact hless'
        clear hbb
        by_cases heq : nm.toList = k.toList
        · have HE : Hid (Plc (catOf G) (kb k) j true) := by
            refine ⟨by rw [HCl.out]; omega, HQ.out.1, fun p hp => ?_, fun _ => ⟨_, HGj.out, ?_⟩, fun _ => rfl⟩
            · rw [HGj.out] at hp; cases hp; exact HB.out
            · show kb nm = kb k; rw [toList_inj heq]
          obtain rfl : nm = k := toList_inj heq
          clear heq hless
          go_wp2_with fail
          go_quiet (fail)
          go_wp2_with fail
          go_ret2
          exact ⟨j, true, rfl, HE.out, HQ.out.2.trans ((below_drewN wr _).mono HQ.out.2.size)⟩
        · have HE : Hid (Plc (catOf G) (kb k) j false) := by
            refine ⟨by rw [HCl.out]; omega, HQ.out.1, fun p hp => ?_, (fun e => by cases e), fun ⟨p, hp, e⟩ => ?_⟩
            · rw [HGj.out] at hp; cases hp; exact HB.out
            · rw [HGj.out] at hp
              cases hp
              exact absurd (congrArg ByteArray.toList (kb_inj e)) heq
          have hbq : (nm.toList == k.toList) = false := beq_false_of_ne heq
          clear hless
          go_wp2_with fail
          go_quiet (fail)
          go_wp2_with fail
          go_ret2
          exact ⟨j, false, rfl, HE.out, HQ.out.2.trans ((below_drewN wr _).mono HQ.out.2.size)⟩
    · have hlI : ¬ (j : Int) < (SN : Int) := by omega
      have HE : Hid (Plc (catOf G) (kb k) j false) := by
        have hn : (catOf G)[j]? = none := List.getElem?_eq_none (by rw [HCl.out]; omega)
        refine ⟨by rw [HCl.out]; omega, HQ.out.1, fun p hp => ?_, (fun e => by cases e), fun ⟨p, hp, e⟩ => ?_⟩
        · rw [hn] at hp; cases hp
        · rw [hn] at hp; cases hp
      go_wp2_with fail
      go_quiet (fail)
      go_wp2_with fail
      go_ret2
      exact ⟨j, false, rfl, HE.out, HQ.out.2.trans ((below_drewN wr _).mono HQ.out.2.size)⟩

end Go.Proofs.YtnboanlhdllhnaaGreat

/- Parts of the document's row of schemas, and rows that are put together of such parts. -/
namespace Go.Proofs.YtnboanlhdllhnaaGreat
open Go.RowKit

theorem flatG_at {G : List Ge} {i j : Nat} {x : Value} (h : (flat enG (G.take i))[j]? = some x) : (flat enG G)[j]? = some x := by
  have e : flat enG G = flat enG (G.take i) ++ flat enG (G.drop i) := by rw [← flat_append, List.take_append_drop]
  rw [e, List.getElem?_append_left (List.getElem?_eq_some_iff.1 h).1]
  exact h
theorem flatG_from {G : List Ge} {i j : Nat} (hi : i ≤ G.length) {x : Value} (h : (flat enG (G.drop i))[j]? = some x) : (flat enG G)[i * 4 + j]? = some x := by
  have e : flat enG G = flat enG (G.take i) ++ flat enG (G.drop i) := by rw [← flat_append, List.take_append_drop]
  have hl : (flat enG (G.take i)).length = i * 4 := by rw [flat_length (en := enG) (m := 4) (fun _ => rfl), List.length_take]; omega
  rw [e, List.getElem?_append_right (by omega), hl, Nat.add_sub_cancel_left]
  exact h
/-- a slice at ad shows the schemas L, as long as the row is as it was -/
def PartG (w : World) (v : Value) (ad : Option Addr) (L : List Ge) : Prop :=
  ∀ u : World, (∀ g, v.ownBlock = some g → u.heap[g]? = w.heap[g]?) → L ≠ [] → ∃ b off, ad = some ⟨b, off, none⟩ ∧ ∀ (j : Nat) x, (flat enG L)[j]? = some x → u.cell? ⟨b, off + j, none⟩ = some x

section
variable {w : World} {a : Option Addr} {n c i : Nat} {G : List Ge}
theorem tab_to (h : w.ownsRow 0 32 4 (.slice a n c) n (flat enG G)) (hn : G.length = n) (hi : i ≤ n) :
    ∃ ad c', (∀ W : World, (Instr.slice 26 (.slice a n c) none (some (.int .i64 (i : Int))) none).run Tryz.prog W = .ok (.slice ad i c') W) ∧ (ad = none → c' = 0) ∧ PartG w (.slice a n c) ad (G.take i) := by
  rcases h.2 with ⟨hv, h0⟩ | ⟨g, cap, cur, hv, _, hg, h1, h2, h3, h4⟩
  · cases hv
    obtain rfl : i = 0 := by omega
    exact ⟨none, 0, fun W => by simp [Instr.slice, run_underlying Tryz.underlying26, Instr.sliceBounds, run_sliceBound, Result.andThen], fun _ => rfl, fun u _ hne => absurd (by simp) hne⟩
  · cases hv
    have hic : (i : Int) ≤ (c : Int) := by omega
    by_cases hc0 : c = 0
    · subst hc0
      obtain rfl : i = 0 := by omega
      exact ⟨some ⟨g, 0, none⟩, 0, fun W => by simp [Instr.slice, run_underlying Tryz.underlying26, Instr.sliceBounds, run_sliceBound, Result.andThen], fun _ => rfl, fun u _ hne => absurd (by simp) hne⟩
    · refine ⟨some ⟨g, 0, none⟩, c, fun W => by simp [Instr.slice, run_underlying Tryz.underlying26, Instr.sliceBounds, run_sliceBound, hic, Result.andThen, Addr.add_lit, hc0], (fun h => by cases h), fun u hu _ => ⟨g, 0, rfl, fun j x hx => ?_⟩⟩
      have hx2 := flatG_at hx
      have hj := (List.getElem?_eq_some_iff.1 hx2).1
      rw [← h4, List.length_take] at hj
      rw [← h4, List.getElem?_take_of_lt (by omega)] at hx2
      rw [Nat.zero_add, cell_of ((hu g rfl).trans hg), ← Array.getElem?_toList, hx2]
theorem tab_from (h : w.ownsRow 0 32 4 (.slice a n c) n (flat enG G)) (hn : G.length = n) (hi : i ≤ n) {d : Nat} (hd : n - i = d) :
    ∃ ad c', (∀ W : World, (Instr.slice 26 (.slice a n c) (some (.int .i64 (i : Int))) none none).run Tryz.prog W = .ok (.slice ad d c') W) ∧ (ad = none → c' = 0) ∧ PartG w (.slice a n c) ad (G.drop i) := by
  rcases h.2 with ⟨hv, h0⟩ | ⟨g, cap, cur, hv, _, hg, h1, h2, h3, h4⟩
  · cases hv
    obtain rfl : i = 0 := by omega
    obtain rfl : d = 0 := by omega
    have : G = [] := List.length_eq_zero_iff.1 hn
    exact ⟨none, 0, fun W => by simp [Instr.slice, run_underlying Tryz.underlying26, Instr.sliceBounds, run_sliceBound, Result.andThen], fun _ => rfl, fun u _ hne => absurd (by rw [this]; rfl) hne⟩
  · cases hv
    have hin : (i : Int) ≤ (n : Int) := by omega
    by_cases hc : c = i
    · obtain rfl : d = 0 := by omega
      have hdn : G.drop i = [] := List.drop_eq_nil_of_le (by omega)
      refine ⟨some ⟨g, 0, none⟩, c - i, fun W => ?_, (fun h => by cases h), fun u _ hne => absurd hdn hne⟩
      have : n = i := by omega
      subst this
      simp [Instr.slice, run_underlying Tryz.underlying26, Instr.sliceBounds, run_sliceBound, Result.andThen, Addr.add_lit, hc]
    · refine ⟨some ⟨g, i * 4, none⟩, c - i, fun W => ?_, (fun h => by cases h), fun u hu _ => ⟨g, i * 4, rfl, fun j x hx => ?_⟩⟩
      · simp [Instr.slice, run_underlying Tryz.underlying26, Instr.sliceBounds, run_sliceBound, hin, Result.andThen, Addr.add_lit, hc, hd]
      · have hx2 := flatG_from (by omega) hx
        have hj := (List.getElem?_eq_some_iff.1 hx2).1
        rw [← h4, List.length_take] at hj
        rw [← h4, List.getElem?_take_of_lt (by omega)] at hx2
        rw [cell_of ((hu g rfl).trans hg), ← Array.getElem?_toList, hx2]
end

theorem oneG {g : Ge} (h : (∃ a n c, g.cv = .slice a n c) ∧ ∃ a n c, g.iv = .slice a n c) : ∀ u ∈ enG g, u.oneCell' = true := fun u hu => by
  obtain ⟨⟨a, n, c, e1⟩, ⟨a', n', c', e2⟩⟩ := h
  unfold enG at hu
  rw [e1, e2] at hu
  simp only [List.mem_cons, List.not_mem_nil, or_false] at hu
  rcases hu with rfl | rfl | rfl | rfl <;> rfl

/-- append of a part to a row of one's own -/
theorem wpList_appG {w : World} {ops : Array Oper} {rest : List Oper} {o : Oper} {a : Act} {Q : Exit → Act → World → Prop} (hgd : o.guard = none) (s x : Operand)
    (hop : o.op = .call { callee := .builtin .append, args := #[s, x], argTypes := #[26, 26] }) {base n m : Nat} {v : Value} {L M : List Ge} (hone : ∀ g ∈ M, (∃ a n c, g.cv = .slice a n c) ∧ ∃ a n c, g.iv = .slice a n c)
    (hs : a.eval s = v) (hown : w.ownsRow base 32 4 v n (flat enG L)) {ad : Option Addr} {c : Nat} (hx : a.eval x = .slice ad m c) (hm : M.length = m) (hnil : ad = none → c = 0)
    (hc : M ≠ [] → ∃ b off, ad = some ⟨b, off, none⟩ ∧ ∀ (j : Nat) u, (flat enG M)[j]? = some u → w.cell? ⟨b, off + j, none⟩ = some u) {N : Nat} (hN : n + m = N) (hA : N ≤ 5000) (hbase : base ≤ w.heap.size)
    (h : ∀ A' c' w', Hid (w'.ownsRow base 32 4 (.slice A' N c') N (flat enG (L ++ M))) → Hid (Turn (fun i => v.ownBlock = some i) w w') → Hid (∀ i, (Value.slice A' N c').ownBlock = some i → v.ownBlock = some i ∨ w.heap.size ≤ i) → wpList Tryz.prog ops Q rest (a.put o.dst (.slice A' N c')) w') : wpList Tryz.prog ops Q (o :: rest) a w := by
  obtain ⟨i, hi, hz, hsz, hb⟩ := info_parts infoTab
  refine wpList_plain hgd fun KK hKK => ?_
  subst hN
  have hbytes : (n + m) * 72 ≤ 140737488355328 := by omega
  cases ad with
  | none =>
    have hy : M = [] := by
      cases hys : M with
      | nil => rfl
      | cons y r =>
        obtain ⟨_, _, e, _⟩ := hc (by rw [hys]; simp)
        cases e
    obtain rfl := hnil rfl
    subst hy
    obtain rfl : m = 0 := hm.symm
    have hrun := run_append_owned_none (P := Tryz.prog) (w := w) base 26 o.type 32 i 4 Tryz.underlying26 hi v n (flat enG L) (by rw [← hsz] at hown ⊢; exact hown)
    obtain ⟨A', c', rfl⟩ := own_shape hown
    unfold Oper.wp
    simp [execOp, hop, resolve, invoke, builtin, hs, hx, hrun, Result.andThen]
    exact hKK _ _ (h A' c' w (by show World.ownsRow _ _ _ _ _ _ _; rw [List.append_nil, Nat.add_zero]; exact hown) (Turn.refl _ _) (fun i hi => Or.inl hi))
  | some ad =>
    obtain ⟨v', w', hr, k1, k2, _, k4⟩ := run_append_own_at (P := Tryz.prog) w base 26 o.type 32 i _ 4 72 Tryz.underlying26 hi hz hsz hb rfl (by decide) v n (flat enG L) hown ad m c (flat enG M) (by rw [flat_length (en := enG) (m := 4) (fun _ => rfl), hm, Nat.mul_comm]) (fun j u hu => by
      obtain ⟨b, off, e, hcell⟩ := hc (fun e => by rw [e] at hu; simp [flat] at hu)
      cases e
      rw [Addr.add_lit]
      exact hcell j u hu) (fun u hu => by
        obtain ⟨y, hy, hyu⟩ := List.mem_flatMap.1 hu
        exact oneG (hone y hy) u hyu) (by unfold maxLen; omega) hbytes hbase
    obtain ⟨A', c', rfl⟩ := own_shape k1
    unfold Oper.wp
    simp [execOp, hop, resolve, invoke, builtin, hs, hx, hr, Result.andThen]
    refine hKK _ _ (h A' c' w' (by show World.ownsRow _ _ _ _ _ _ _; rw [flat_append]; exact k1) (Turn.ofGrown k2 (fun k hk => hk)) fun i hi => ?_)
    rcases k4 with k | k
    · exact Or.inl (k ▸ hi)
    · rw [k] at hi
      right
      injection hi with hi
      omega

/-- a row of schemas that grows in a call: behind w, with what stands in the catalogue beside it -/
structure Gw (w wr : World) (c : Nat) (S : Sl) (G : List Ge) (R : Sl) (L : List Ge) : Prop where
  base : Below w.heap.size w wr
  cat : RcG wr c S G
  old : ∀ i, rcFoot c S G i → i < w.heap.size
  row : wr.ownsRow w.heap.size 32 4 R.v R.n (flat enG L)
  len : L.length = R.n
section
variable {w wr u : World} {c : Nat} {S R : Sl} {G L : List Ge}
theorem Gw.start (h : RcG w c S G) : Gw w w c S G Sl.nil [] := ⟨Below.refl _ _, h, fun _ hi => h.lt hi, World.ownsRow_nil _ _ _ _, rfl⟩
theorem Gw.fresh (h : Gw w wr c S G R L) (hb : Below wr.heap.size wr u) : Gw w u c S G R L :=
  ⟨h.base.trans (hb.mono h.base.size), h.cat.below hb, h.old, ownsRow_block h.row fun i hi => hb.block i (World.ownsRow.lt h.row i hi).2, h.len⟩
theorem Gw.grow (h : Gw w wr c S G R L) {M : List Ge} {A' : Option Addr} {N c' : Nat} (hN : R.n + M.length = N) (k1 : u.ownsRow w.heap.size 32 4 (.slice A' N c') N (flat enG (L ++ M))) (k2 : Turn (fun i => R.v.ownBlock = some i) wr u) : Gw w u c S G ⟨A', N, c'⟩ (L ++ M) := by
  have hr : ∀ i, R.v.ownBlock = some i → w.heap.size ≤ i := fun i hi => (World.ownsRow.lt h.row i hi).1
  exact ⟨h.base.trans ((k2.mono (S' := fun i => w.heap.size ≤ i) hr).toBelow h.base.size), h.cat.kept fun i hi => k2.block i (h.cat.lt hi) (fun e => by have := hr i e; have := h.old i hi; omega), h.old, k1, by rw [List.length_append, h.len, hN]⟩
theorem Gw.part {ad : Option Addr} {M : List Ge} (h : Gw w wr c S G R L) (hp : PartG w S.v ad M) : M ≠ [] → ∃ b off, ad = some ⟨b, off, none⟩ ∧ ∀ (j : Nat) x, (flat enG M)[j]? = some x → wr.cell? ⟨b, off + j, none⟩ = some x :=
  hp wr fun g hg => h.base.block g (h.old g (Or.inr (Or.inl hg)))
/-- the catalogue takes the row over -/
theorem Gw.take (h : Gw w wr c S G R L) (hT : ∀ g ∈ L, TabO wr 0 g.cv g.iv g.X g.T ∧ MayT g.T) (hl : L.length ≤ 4096) :
    RcG (wr.setCell ⟨c, 0, none⟩ R.v) c R L ∧ Turn (fun i => i = c) w (wr.setCell ⟨c, 0, none⟩ R.v) ∧ ∀ i, rcFoot c R L i → i = c ∨ w.heap.size ≤ i ∨ ∃ g ∈ L, g.foot i := by
  have ht : Turn (fun i => i = c) wr (wr.setCell ⟨c, 0, none⟩ R.v) := Turn.setCell (S := fun i => i = c) wr ⟨c, 0, none⟩ _ rfl
  have hb : Turn (fun i => i = c) w wr := ⟨h.base.os, h.base.tape, h.base.output, h.base.size, fun i hi _ => h.base.block i hi⟩
  refine ⟨⟨heap_setCell_same h.cat.top 0 _, ownsRow_low (ownsRow_block h.row fun i hi => ht.block i (World.ownsRow.lt h.row i hi).2 (fun e => row_not h.row h.cat.top (by decide) (by rw [← e]; exact hi))) (Nat.zero_le _), h.len, fun g hg => ⟨(hT g hg).1.block fun i hi => ht.block i ((hT g hg).1.lt hi).2 (fun e => ?_), (hT g hg).2⟩, hl⟩, hb.trans ht, fun i hi => ?_⟩
  · rw [e] at hi
    exact TabO.not_type (hT g hg).1 h.cat.top (by decide) (by decide) (by decide) hi
  · rcases hi with e | e | e
    · exact Or.inl e
    · exact Or.inr (Or.inl (World.ownsRow.lt h.row i e).1)
    · exact Or.inr (Or.inr e)
end

end Go.Proofs.YtnboanlhdllhnaaGreat

/- The document's Drop, Find. -/
namespace Go.Proofs.YtnboanlhdllhnaaGreat
open Go.RowKit

theorem Goes.rcStay {c : Nat} {L : Cat} {w w' : World} {F : Nat → Prop} (h : RcI c L w F) (hb : Below w.heap.size w w') : Goes (RcI c L) w w' F :=
  ⟨F, (rcI_res c L).kept h (Turn.ofBelow (fun _ => False) hb) (fun _ _ h => h), Turn.ofBelow _ hb, fun _ hi => Or.inl hi⟩
theorem TabO.shapes {w : World} {base : Nat} {g : Ge} (h : TabO w base g.cv g.iv g.X g.T) : (∃ a n c, g.cv = .slice a n c) ∧ ∃ a n c, g.iv = .slice a n c := h.shape

set_option maxRecDepth 100000 in
set_option maxHeartbeats 2000000 in
theorem rdrop_any (c : Nat) (L : Cat) (k : ByteArray) (w : World) (F : Nat → Prop) (hr : Dk.Rise L) (h : RcI c L w F) :
    Calls Tryz.prog 14 #[.pointer (some ⟨c, 0, none⟩), .string k] w fun e w' => e = .returned (.int .i64 (drE L k)) ∧ Goes (RcI c (drL L k)) w w' F := by
  obtain ⟨⟨SA, SN, SC⟩, G, hG, rfl, hF⟩ := h
  have HR : Hid (Dk.Rise (catOf G)) := hr
  have HF : Hid (∀ i, F i ↔ rcFoot c ⟨SA, SN, SC⟩ G i) := hF
  have HG : Hid (RcG w c ⟨SA, SN, SC⟩ G) := hG
  have HL : Hid (G.length = SN) := hG.len
  have hfew : SN ≤ 4096 := by have := hG.few; have := hG.len; dsimp only at this; omega
  have HP : Hid (Calls Tryz.prog 28 #[.pointer (some ⟨c, 0, none⟩), .string k] w fun e w' => ∃ (i : Nat) (there : Bool), e = .returned (.tuple #[.int .i64 (i : Int), .bool there]) ∧ Hid (Plc (catOf G) (kb k) i there ∧ Below w.heap.size w w')) := place_any hG k
  clear hr hF hG
  go_enter Tryz.func14, Tryz.ntmps14
  go_upto_region 2 with (go_at_call 28; go_must (refine HP.out.mono ?_; rintro e w1 ⟨i, there, rfl, K1⟩))
  cases there with
  | false =>
    obtain ⟨y1, y2, y3⟩ := K1.out.1.no HR.out
    have HE : Hid (drE (catOf G) k = 141 ∧ drL (catOf G) k = catOf G) := by
      unfold drE drL
      rw [y1, y2]
      exact ⟨rfl, rfl⟩
    clear y1 y2 y3
    go_wp2_with fail
    go_ret
    refine ⟨by rw [HE.out.1]; rfl, ?_⟩
    rw [HE.out.2]
    exact Goes.rcStay ⟨_, _, HG.out, rfl, HF.out⟩ K1.out.2
  | true =>
    obtain ⟨p, y1, y2, y3, y4⟩ := K1.out.1.yes HR.out
    have hi : i < SN := by
      have := (List.getElem?_eq_some_iff.1 y1).1
      unfold catOf at this
      rw [List.length_map, HL.out] at this
      exact this
    have HE : Hid (drE (catOf G) k = 0 ∧ drL (catOf G) k = catOf (G.take i ++ G.drop (i + 1))) := by
      unfold drE drL
      rw [y3, y4]
      refine ⟨rfl, ?_⟩
      unfold catOf
      rw [List.map_append, List.map_take, List.map_drop]
    clear y1 y2 y3 y4
    have hG1 := HG.out.below K1.out.2
    obtain ⟨d, hd⟩ : ∃ d, SN - (i + 1) = d := ⟨_, rfl⟩
    obtain ⟨ad1, cp1, hs1, hn1, hp1⟩ := tab_to (i := i) hG1.row hG1.len (by show i ≤ SN; omega)
    obtain ⟨ad2, cp2, hs2', hn2, hp2⟩ := tab_from (i := i + 1) hG1.row hG1.len (by show i + 1 ≤ SN; omega) hd
    have hs2 : ∀ W : World, (Instr.slice 26 (.slice SA SN SC) (some (.int .i64 ((i : Int) + 1))) none none).run Tryz.prog W = .ok (.slice ad2 d cp2) W := fun W => by
      have := hs2' W
      push_cast at this
      exact this
    have HNl : Hid ((ad1 = none → cp1 = 0) ∧ (ad2 = none → cp2 = 0)) := ⟨hn1, hn2⟩
    have HPt : Hid (PartG w1 (.slice SA SN SC) ad1 (G.take i) ∧ PartG w1 (.slice SA SN SC) ad2 (G.drop (i + 1))) := ⟨hp1, hp2⟩
    have HLen : Hid ((G.take i).length = i ∧ (G.drop (i + 1)).length = d) := ⟨by rw [List.length_take, HL.out]; omega, by rw [List.length_drop, HL.out]; exact hd⟩
    have HSh : Hid (∀ g ∈ G, (∃ a n c, g.cv = .slice a n c) ∧ ∃ a n c, g.iv = .slice a n c) := fun g hg => (hG1.tabs g hg).1.shapes
    have G0 : Hid (Gw w1 w1 c ⟨SA, SN, SC⟩ G Sl.nil []) := Gw.start hG1
    have q0 : w1.cell? ⟨c, 0, none⟩ = some (.slice SA SN SC) := hG1.cell
    have HD : Hid (SN - (i + 1) = d) := hd
    have hiI : (i : Int) ≤ 4096 := by omega
    clear hG1 hn1 hn2 hp1 hp2 hs2' hd
    go_upto_region 6 with (at_builtin; go_must (refine wpList_appG (N := i) rfl _ _ rfl (fun g hg => HSh.out g (List.mem_of_mem_take hg)) rfl G0.out.row rfl HLen.out.1 HNl.out.1 (G0.out.part HPt.out.1) (by show 0 + i = i; omega) (by omega) G0.out.base.size ?_; intro A1 c1 w2 r1 r2 r3))
    have G1 : Hid (Gw w1 w2 c ⟨SA, SN, SC⟩ G ⟨A1, i, c1⟩ (G.take i)) := G0.out.grow (M := G.take i) (by show 0 + _ = _; rw [HLen.out.1]; omega) r1.out r2.out
    have q1 : w2.cell? ⟨c, 0, none⟩ = some (.slice SA SN SC) := G1.out.cat.cell
    clear q0 r1 r2 r3 hs1 G0
    have HN2 : Hid (i + d = SN - 1) := by have := HD.out; show _ = _; omega
    obtain ⟨n2, hn2⟩ : ∃ n2, SN - 1 = n2 := ⟨_, rfl⟩
    rw [hn2] at HN2
    have hn2' : n2 ≤ 4096 := by omega
    go_wp2_with (at_builtin; go_must (refine wpList_appG (N := n2) rfl _ _ rfl (fun g hg => HSh.out g (List.mem_of_mem_drop hg)) rfl G1.out.row rfl HLen.out.2 HNl.out.2 (G1.out.part HPt.out.2) HN2.out (by omega) G1.out.base.size ?_; intro A2 c2 w3 r1 r2 r3; have G2 : Hid (Gw w1 w3 c ⟨SA, SN, SC⟩ G ⟨A2, n2, c2⟩ (G.take i ++ G.drop (i + 1))) := G1.out.grow (M := G.drop (i + 1)) (by rw [HLen.out.2]; exact HN2.out) r1.out r2.out; have q2 : w3.cell? ⟨c, 0, none⟩ = some (.slice SA SN SC) := G2.out.cat.cell; have q3 := frozen_of G2.out.cat.top 0))
    go_ret
    refine ⟨by rw [HE.out.1]; rfl, ?_⟩
    rw [HE.out.2]
    have hmem : ∀ g ∈ G.take i ++ G.drop (i + 1), g ∈ G := fun g hg => by
      rcases List.mem_append.1 hg with h | h
      · exact List.mem_of_mem_take h
      · exact List.mem_of_mem_drop h
    have hlen : (G.take i ++ G.drop (i + 1)).length ≤ 4096 := by rw [List.length_append, HLen.out.1, HLen.out.2]; have := HN2.out; omega
    obtain ⟨t1, t2, t3⟩ := G2.out.take (fun g hg => G2.out.cat.tabs g (hmem g hg)) hlen
    refine ⟨rcFoot c ⟨A2, n2, c2⟩ (G.take i ++ G.drop (i + 1)), ⟨_, _, t1, rfl, fun _ => Iff.rfl⟩, (Turn.ofBelow F K1.out.2).trans (t2.mono (S' := F) (fun j hj => (HF.out j).2 (Or.inl hj))), fun j hj => ?_⟩
    rcases t3 j hj with e | e | ⟨g, hg, e⟩
    · exact Or.inl ((HF.out j).2 (Or.inl e))
    · have := K1.out.2.size; exact Or.inr (by omega)
    · exact Or.inl ((HF.out j).2 (Or.inr (Or.inr ⟨g, hmem g hg, e⟩)))

theorem catOf_at {G : List Ge} {i : Nat} {p : List UInt8 × Tab} (h : (catOf G)[i]? = some p) : ∃ g, G[i]? = some g ∧ p = (kb g.T.nm, g.T) := by
  unfold catOf at h
  rw [List.getElem?_map] at h
  cases hg : G[i]? with
  | none => rw [hg] at h; cases h
  | some g => rw [hg] at h; exact ⟨g, rfl, by simpa using h.symm⟩

set_option maxRecDepth 100000 in
set_option maxHeartbeats 2000000 in
theorem rfind_none {c : Nat} {S : Sl} {G : List Ge} {k : ByteArray} {w : World} (hr : Dk.Rise (catOf G)) (hG : RcG w c S G) (hg : Dk.getL (kb k) (catOf G) = none) :
    Calls Tryz.prog 16 #[.pointer (some ⟨c, 0, none⟩), .string k] w fun e w' => e = .returned (.tuple #[zeroTab, .int .i64 141]) ∧ Hid (Below w.heap.size w w') := by
  have HR : Hid (Dk.Rise (catOf G) ∧ Dk.getL (kb k) (catOf G) = none) := ⟨hr, hg⟩
  have hb0 : Below w.heap.size w (w.alloc tabZ) := (Below.refl _ w).alloc (Nat.le_refl _) _
  have HP : Hid (Calls Tryz.prog 28 #[.pointer (some ⟨c, 0, none⟩), .string k] (w.alloc tabZ) fun e w' => ∃ (i : Nat) (there : Bool), e = .returned (.tuple #[.int .i64 (i : Int), .bool there]) ∧ Hid (Plc (catOf G) (kb k) i there ∧ Below (w.alloc tabZ).heap.size (w.alloc tabZ) w')) := place_any (hG.below hb0) k
  clear hr hG hg hb0
  go_enter Tryz.func16, Tryz.ntmps16
  go_upto_region 2 with (go_at_call 28; go_must (refine HP.out.mono ?_; rintro e w1 ⟨i, there, rfl, K1⟩))
  cases there with
  | true =>
    obtain ⟨p, y1, y2, y3, y4⟩ := K1.out.1.yes HR.out.1
    rw [HR.out.2] at y3
    cases y3
  | false =>
    have hz := (K1.out.2.block w.heap.size (by simp)).trans (heap_new w tabZ)
    obtain ⟨z0, z1, z2, z3⟩ := box_cells hz
    have y0 := frozen_of hz 0
    have y1 := frozen_of hz 1
    have y2 := frozen_of hz 2
    have y3 := frozen_of hz 3
    clear hz
    go_wp2_with fail
    refine bodyPost_ret (by simp [results, Tryz.results16, go_sem, z0, z1, z2, z3]; rfl) rfl ?_
    have ht := set4_turn w1 w.heap.size (.string ⟨#[]⟩) (.slice none 0 0) (.int .i64 0) (.slice none 0 0)
    have hb1 : Below w.heap.size w w1 := ((Below.refl _ w).alloc (Nat.le_refl _) tabZ).trans (K1.out.2.mono (by simp))
    exact ⟨rfl, hb1.trans ((ht.mono (S' := fun q => w.heap.size ≤ q) (fun q hq => by omega)).toBelow hb1.size)⟩

set_option maxRecDepth 100000 in
set_option maxHeartbeats 2000000 in
theorem rfind_some {c : Nat} {S : Sl} {G : List Ge} {k : ByteArray} {T : Tab} {w : World} (hr : Dk.Rise (catOf G)) (hG : RcG w c S G) (hg : Dk.getL (kb k) (catOf G) = some T) :
    Calls Tryz.prog 16 #[.pointer (some ⟨c, 0, none⟩), .string k] w fun e w' => ∃ ca cn cc ia n ic, e = .returned (.tuple #[.agg #[.string T.nm, .slice ca cn cc, .int .i64 T.key, .slice ia n ic], .int .i64 0]) ∧ Hid (∃ X, Below w.heap.size w w' ∧ TabO w' w.heap.size (.slice ca cn cc) (.slice ia n ic) X T) := by
  obtain ⟨SA, SN, SC⟩ := S
  have HR : Hid (Dk.Rise (catOf G) ∧ Dk.getL (kb k) (catOf G) = some T) := ⟨hr, hg⟩
  have hb0 : Below w.heap.size w (w.alloc tabZ) := (Below.refl _ w).alloc (Nat.le_refl _) _
  have HG : Hid (RcG (w.alloc tabZ) c ⟨SA, SN, SC⟩ G) := hG.below hb0
  have hfew : SN ≤ 4096 := by have := hG.few; have := hG.len; dsimp only at this; omega
  have HL : Hid (G.length = SN) := hG.len
  have hsc : SN ≤ SC := by
    have hs : SliceAt w (.slice SA SN SC) 4 enG G := own_slice (en := enG) (fun _ => rfl) (by rw [hG.len]; exact hG.row)
    obtain ⟨a, c', e, h1, _⟩ := hs
    simp only [Value.slice.injEq] at e
    have := HL.out
    omega
  have HP : Hid (Calls Tryz.prog 28 #[.pointer (some ⟨c, 0, none⟩), .string k] (w.alloc tabZ) fun e w' => ∃ (i : Nat) (there : Bool), e = .returned (.tuple #[.int .i64 (i : Int), .bool there]) ∧ Hid (Plc (catOf G) (kb k) i there ∧ Below (w.alloc tabZ).heap.size (w.alloc tabZ) w')) := place_any HG.out k
  clear hr hG hg hb0
  go_enter Tryz.func16, Tryz.ntmps16
  go_upto_region 2 with (go_at_call 28; go_must (refine HP.out.mono ?_; rintro e w1 ⟨i, there, rfl, K1⟩))
  cases there with
  | false =>
    obtain ⟨y1, _, _⟩ := K1.out.1.no HR.out.1
    rw [HR.out.2] at y1
    cases y1
  | true =>
    obtain ⟨p, y1, y2, y3, y4⟩ := K1.out.1.yes HR.out.1
    obtain ⟨⟨gT, gcv, giv, gX⟩, hgi, rfl⟩ := catOf_at y1
    dsimp only at y2 y3
    have hTe : gT = T := by rw [HR.out.2] at y3; exact (Option.some.inj y3).symm
    subst hTe
    have hi : i < SN := by rw [← HL.out]; exact (List.getElem?_eq_some_iff.1 hgi).1
    have hG1 := HG.out.below K1.out.2
    obtain ⟨hT1, hM1⟩ := hG1.tabs _ (List.mem_of_getElem? hgi)
    obtain ⟨b, off, hSA, q0, q1, q2, q3⟩ := hG1.rows w1 (Below.refl _ _) i _ hgi
    dsimp only at hSA hT1 hM1 q0 q1 q2 q3
    subst hSA
    obtain ⟨⟨c1a, c1n, c1c, rfl⟩, ⟨c2a, c2n, c2c, rfl⟩⟩ := hT1.shape
    have hcell : w1.cell? ⟨c, 0, none⟩ = some (.slice (some ⟨b, off, none⟩) SN SC) := hG1.cell
    have HCp := copyT_any _ _ gX gT w1 w1 (Below.refl _ _) (hT1.cp hM1)
    unfold tabVal at HCp
    have hz := (K1.out.2.block w.heap.size (by simp)).trans (heap_new w tabZ)
    have HZ : Hid (w1.heap[w.heap.size]? = some tabZ ∧ Below w.heap.size w w1 ∧ w.heap.size < w1.heap.size) := ⟨hz, ((Below.refl _ w).alloc (Nat.le_refl _) tabZ).trans (K1.out.2.mono (by simp)), lt_of hz⟩
    obtain ⟨nm, hnm⟩ : ∃ nm, gT.nm = nm := ⟨_, rfl⟩
    obtain ⟨key, hkey⟩ : ∃ key, gT.key = key := ⟨_, rfl⟩
    have HCq : Hid (Calls Tryz.prog 8 #[.agg #[.string nm, .slice c1a c1n c1c, .int .i64 key, .slice c2a c2n c2c]] w1 fun e w' => ∃ ca cn cc ia n ic, e = .returned (.agg #[.string nm, .slice ca cn cc, .int .i64 key, .slice ia n ic]) ∧ Hid (∃ X, Below w1.heap.size w1 w' ∧ TabO w' w1.heap.size (.slice ca cn cc) (.slice ia n ic) X gT)) := by
      rw [← hnm, ← hkey]
      refine HCp.mono fun e w' ⟨cv', iv', X', e1, e2, e3⟩ => ?_
      obtain ⟨⟨a1, a2, a3, rfl⟩, ⟨a4, a5, a6, rfl⟩⟩ := e2.shape
      exact ⟨a1, a2, a3, a4, a5, a6, e1, X', e3, e2⟩
    rw [hnm] at q0
    rw [hkey] at q2
    have HN : Hid (gT.nm = nm ∧ gT.key = key) := ⟨hnm, hkey⟩
    have hiI : (i : Int) < (SN : Int) := by omega
    clear y1 y2 y3 y4 hgi hG1 hT1 hM1 HCp hz hnm hkey K1 HP
    go_wp2_with (go_at_call 8; go_must (refine HCq.out.mono ?_; rintro e w2 ⟨ca, cn, cc, ia, n5, ic, rfl, K2⟩; have hz2 : w2.heap[w.heap.size]? = some tabZ := (by obtain ⟨X, k1, k2⟩ := K2.out; exact (k1.block _ HZ.out.2.2).trans HZ.out.1); obtain ⟨z0, z1, z2, z3⟩ := box_cells hz2; have v0 := frozen_of hz2 0; have v1 := frozen_of hz2 1; have v2 := frozen_of hz2 2; have v3 := frozen_of hz2 3; have HZ2 : Hid (w2.heap[w.heap.size]? = some tabZ) := hz2; clear hz2))
    have hk := HZ2.out
    have i0 : (w2.setCell ⟨w.heap.size, 0, none⟩ (.string nm)).cell? ⟨w.heap.size, 0, none⟩ = some (.string nm) := by rw [cell_of (heap_setCell_same hk 0 _)]; rfl
    have i1 : ∀ x, ((w2.setCell ⟨w.heap.size, 0, none⟩ x).setCell ⟨w.heap.size, 1, none⟩ (.slice ca cn cc)).cell? ⟨w.heap.size, 1, none⟩ = some (.slice ca cn cc) := fun x => by rw [cell_of (heap_setCell_same (heap_setCell_same hk 0 _) 1 _)]; rfl
    have i2 : ∀ x y, (((w2.setCell ⟨w.heap.size, 0, none⟩ x).setCell ⟨w.heap.size, 1, none⟩ y).setCell ⟨w.heap.size, 2, none⟩ (.int .i64 key)).cell? ⟨w.heap.size, 2, none⟩ = some (.int .i64 key) := fun x y => by rw [cell_of (heap_setCell_same (heap_setCell_same (heap_setCell_same hk 0 _) 1 _) 2 _)]; rfl
    have i3 : ∀ x y z, ((((w2.setCell ⟨w.heap.size, 0, none⟩ x).setCell ⟨w.heap.size, 1, none⟩ y).setCell ⟨w.heap.size, 2, none⟩ z).setCell ⟨w.heap.size, 3, none⟩ (.slice ia n5 ic)).cell? ⟨w.heap.size, 3, none⟩ = some (.slice ia n5 ic) := fun x y z => by rw [cell_of (heap_setCell_same (heap_setCell_same (heap_setCell_same (heap_setCell_same hk 0 _) 1 _) 2 _) 3 _)]; rfl
    refine bodyPost_ret (by simp [results, Tryz.results16, go_sem, i0, i1, i2, i3]; rfl) rfl ?_
    have ht := set4_turn w2 w.heap.size (.string nm) (.slice ca cn cc) (.int .i64 key) (.slice ia n5 ic)
    obtain ⟨X, k1, k2⟩ := K2.out
    have hb1 : Below w.heap.size w w2 := HZ.out.2.1.trans (k1.mono HZ.out.2.1.size)
    refine ⟨ca, cn, cc, ia, n5, ic, by rw [HN.out.1, HN.out.2], X, hb1.trans ((ht.mono (S' := fun q => w.heap.size ≤ q) (fun q hq => by omega)).toBelow hb1.size), ?_⟩
    have hlt := HZ.out.2.2
    exact (TabO.block (g := ⟨gT, .slice ca cn cc, .slice ia n5 ic, X⟩) k2 fun j hj => ht.block j (TabO.lt (g := ⟨gT, .slice ca cn cc, .slice ia n5 ic, X⟩) k2 hj).2 (fun e => by have := (TabO.lt (g := ⟨gT, .slice ca cn cc, .slice ia n5 ic, X⟩) k2 hj).1; omega)).low (by omega)

end Go.Proofs.YtnboanlhdllhnaaGreat

/- The document's Create. -/
namespace Go.Proofs.YtnboanlhdllhnaaGreat
open Go.RowKit

theorem part_one (w : World) (g : Ge) {x0 x1 x2 x3 : Value} (he : enG g = [x0, x1, x2, x3]) : [g] ≠ [] → ∃ b off, (some ⟨w.heap.size, 0, none⟩ : Option Addr) = some ⟨b, off, none⟩ ∧ ∀ (j : Nat) x, (flat enG [g])[j]? = some x → (w.alloc (.cells #[x0, x1, x2, x3] 32)).cell? ⟨b, off + j, none⟩ = some x := fun _ =>
  ⟨w.heap.size, 0, rfl, fun j x hx => by
    have e : flat enG [g] = [x0, x1, x2, x3] := by rw [← he]; simp [flat]
    rw [e] at hx
    rw [Nat.zero_add]
    exact four_at w x0 x1 x2 x3 j x hx⟩

set_option maxRecDepth 100000 in
set_option maxHeartbeats 4000000 in
theorem rcreate_any (c : Nat) (L : Cat) (cv iv : Value) (X : List Iv) (T : Tab) (w w0 : World) (F : Nat → Prop) (hr : Dk.Rise L) (hb : Below w0.heap.size w0 w) (hcp : CpOk w0 cv iv X T) (hrg : Rg T) (h : RcI c L w F) :
    Calls Tryz.prog 10 #[.pointer (some ⟨c, 0, none⟩), tabVal cv iv T] w fun e w' => e = .returned (.int .i64 (crE L T)) ∧ Goes (RcI c (crL L T)) w w' F := by
  obtain ⟨⟨SA, SN, SC⟩, G, hG, rfl, hF⟩ := h
  obtain ⟨ca, cc, rfl, -, -⟩ := (hcp.below hb).co.opened
  obtain ⟨ia, ic, rfl, -, -⟩ := (hcp.below hb).ix.opened
  obtain ⟨n1, hn1⟩ : ∃ n1, T.co.length = n1 := ⟨_, rfl⟩
  obtain ⟨n2, hn2⟩ : ∃ n2, X.length = n2 := ⟨_, rfl⟩
  rw [hn1, hn2] at hcp
  rw [hn1, hn2]
  have HR : Hid (Dk.Rise (catOf G)) := hr
  have HF : Hid (∀ i, F i ↔ rcFoot c ⟨SA, SN, SC⟩ G i) := hF
  have HG : Hid (RcG w c ⟨SA, SN, SC⟩ G) := hG
  have HL : Hid (G.length = SN ∧ (catOf G).length = SN) := ⟨hG.len, by unfold catOf; rw [List.length_map]; exact hG.len⟩
  have hfew : SN ≤ 4096 := by have := hG.few; have := hG.len; dsimp only at this; omega
  have HSt : Hid (∀ u, Below w.heap.size w u → Goes (RcI c (catOf G)) w u F) := fun u hu => Goes.rcStay ⟨_, _, hG, rfl, hF⟩ hu
  have HMy : Hid (∀ u, Below w.heap.size w u → Calls Tryz.prog 27 #[.agg #[.string T.nm, .slice ca n1 cc, .int .i64 T.key, .slice ia n2 ic]] u fun e w' => e = .returned (.bool T.may) ∧ Hid (Below u.heap.size u w')) := fun u hu =>
    rmay_any _ _ T u w0 (hb.trans (hu.mono hb.size)) hcp.tabV hrg
  have HPl : Hid (∀ u, Below w.heap.size w u → Calls Tryz.prog 28 #[.pointer (some ⟨c, 0, none⟩), .string T.nm] u fun e w' => ∃ (i : Nat) (there : Bool), e = .returned (.tuple #[.int .i64 (i : Int), .bool there]) ∧ Hid (Plc (catOf G) (kb T.nm) i there ∧ Below u.heap.size u w')) := fun u hu => place_any (HG.out.below hu) T.nm
  have HCo : Hid (∀ u, Below w.heap.size w u → Calls Tryz.prog 8 #[.agg #[.string T.nm, .slice ca n1 cc, .int .i64 T.key, .slice ia n2 ic]] u fun e w' => ∃ a1 a2 a3 a4 a5 a6, e = .returned (.agg #[.string T.nm, .slice a1 a2 a3, .int .i64 T.key, .slice a4 a5 a6]) ∧ Hid (∃ X', Below u.heap.size u w' ∧ TabO w' u.heap.size (.slice a1 a2 a3) (.slice a4 a5 a6) X' T)) := fun u hu => by
    refine (copyT_any _ _ X T u w0 (hb.trans (hu.mono hb.size)) hcp).mono fun e w' ⟨cv', iv', X', e1, e2, e3⟩ => ?_
    obtain ⟨⟨a1, a2, a3, rfl⟩, ⟨a4, a5, a6, rfl⟩⟩ := e2.shape
    exact ⟨a1, a2, a3, a4, a5, a6, e1, X', e3, e2⟩
  unfold tabVal
  obtain ⟨nm, hnm⟩ : ∃ nm, T.nm = nm := ⟨_, rfl⟩
  obtain ⟨key, hkey⟩ : ∃ key, T.key = key := ⟨_, rfl⟩
  have HN : Hid (T.nm = nm ∧ T.key = key) := ⟨hnm, hkey⟩
  rw [hnm, hkey] at HMy HCo
  rw [hnm] at HPl
  rw [hnm, hkey]
  clear hr hF hG hb hcp hrg hn1 hn2 hnm hkey
  obtain ⟨wB, hwB⟩ : ∃ u, w.alloc (.cells #[.string nm, .slice ca n1 cc, .int .i64 key, .slice ia n2 ic] 32) = u := ⟨_, rfl⟩
  obtain ⟨xb, hxb⟩ : ∃ xb, w.heap.size = xb := ⟨_, rfl⟩
  have hBB : Below w.heap.size w wB := by rw [← hwB]; exact (Below.refl _ w).alloc (Nat.le_refl _) _
  have hxB : wB.heap[xb]? = some (.cells #[.string nm, .slice ca n1 cc, .int .i64 key, .slice ia n2 ic] 32 (0, 0)) := by rw [← hwB, ← hxb]; exact heap_new w _
  have HBB : Hid (Below w.heap.size w wB) := hBB
  have HXB : Hid (∀ u, Below wB.heap.size wB u → u.cell? ⟨xb, 0, none⟩ = some (.string nm) ∧ u.cell? ⟨xb, 1, none⟩ = some (.slice ca n1 cc) ∧ u.cell? ⟨xb, 2, none⟩ = some (.int .i64 key) ∧ u.cell? ⟨xb, 3, none⟩ = some (.slice ia n2 ic)) := fun u hu => box_cells ((hu.block xb (lt_of hxB)).trans hxB)
  obtain ⟨x0, x1, x2, x3⟩ := box_cells hxB
  have HM1 : Hid (Calls Tryz.prog 27 #[.agg #[.string nm, .slice ca n1 cc, .int .i64 key, .slice ia n2 ic]] wB fun e w' => e = .returned (.bool T.may) ∧ Hid (Below wB.heap.size wB w')) := HMy.out wB hBB
  clear hBB hxB HMy
  go_enter Tryz.func10, Tryz.ntmps10
  cases hmay : T.may with
  | false =>
    rw [hmay] at HM1
    have HE : Hid (crE (catOf G) T = 140 ∧ crL (catOf G) T = catOf G) := by
      have : crE (catOf G) T = 140 := by unfold crE; rw [hmay]; rfl
      exact ⟨this, by unfold crL; rw [this, if_neg (by decide)]⟩
    clear hmay
    go_wp2_with (go_at_call 27; go_must (refine HM1.out.mono ?_; rintro e w1 ⟨rfl, K1⟩))
    go_ret
    refine ⟨by rw [HE.out.1]; rfl, ?_⟩
    rw [HE.out.2]
    exact HSt.out _ (HBB.out.trans (K1.out.mono HBB.out.size))
  | true =>
    rw [hmay] at HM1
    have HMay : Hid (T.may = true) := hmay
    clear hmay
    go_upto_region 4 with (first
      | (go_at_call 27; go_must (refine HM1.out.mono ?_; rintro e w1 ⟨rfl, K1⟩; obtain ⟨y0, y1, y2, y3⟩ := HXB.out w1 K1.out; have B1 : Hid (Below w.heap.size w w1) := HBB.out.trans (K1.out.mono HBB.out.size)))
      | (go_at_call 28; go_must (refine (HPl.out _ B1.out).mono ?_; rintro e w2 ⟨i, there, rfl, K2⟩; have B2 : Hid (Below w.heap.size w w2) := B1.out.trans (K2.out.2.mono B1.out.size); have B2' : Hid (Below wB.heap.size wB w2) := K1.out.trans (K2.out.2.mono K1.out.size))))
    clear HM1 HPl x0 x1 x2 x3 y0 y1 y2 y3
    cases there with
    | true =>
      obtain ⟨p, y1, y2, y3, y4⟩ := K2.out.1.yes HR.out
      have HE : Hid (crE (catOf G) T = 6 ∧ crL (catOf G) T = catOf G) := by
        have : crE (catOf G) T = 6 := by unfold crE; rw [HMay.out, HN.out.1, y3]; rfl
        exact ⟨this, by unfold crL; rw [this, if_neg (by decide)]⟩
      clear y1 y2 y3 y4
      go_wp2_with fail
      go_ret
      refine ⟨by rw [HE.out.1]; rfl, ?_⟩
      rw [HE.out.2]
      exact HSt.out _ B2.out
    | false =>
      obtain ⟨y1, _, y3⟩ := K2.out.1.no HR.out
      have hG2 := HG.out.below B2.out
      have q0 : w2.cell? ⟨c, 0, none⟩ = some (.slice SA SN SC) := hG2.cell
      by_cases hfull : SN < 4096
      · have HE : Hid (crE (catOf G) T = 0 ∧ crL (catOf G) T = (catOf G).take i ++ (kb T.nm, T) :: (catOf G).drop i) := by
          have : crE (catOf G) T = 0 := crE_zero.2 ⟨HMay.out, by rw [HN.out.1]; exact y1, by rw [HL.out.2]; exact hfull⟩
          refine ⟨this, ?_⟩
          unfold crL
          rw [this, if_pos rfl, HN.out.1]
          exact y3 T
        have hi : i ≤ SN := by have := K2.out.1.le; rw [HL.out.2] at this; exact this
        have g1 : ¬ (4096 : Int) ≤ (SN : Int) := by omega
        have g2 : decide ((4096 : Int) ≤ (SN : Int)) = false := decide_eq_false g1
        obtain ⟨d, hd⟩ : ∃ d, SN - i = d := ⟨_, rfl⟩
        obtain ⟨ad1, cp1, hs1, hn1, hp1⟩ := tab_to (i := i) hG2.row hG2.len (by show i ≤ SN; omega)
        obtain ⟨ad2, cp2, hs2, hn2, hp2⟩ := tab_from (i := i) hG2.row hG2.len (by show i ≤ SN; omega) hd
        have HNl : Hid ((ad1 = none → cp1 = 0) ∧ (ad2 = none → cp2 = 0)) := ⟨hn1, hn2⟩
        have HPt : Hid (PartG w2 (.slice SA SN SC) ad1 (G.take i) ∧ PartG w2 (.slice SA SN SC) ad2 (G.drop i)) := ⟨hp1, hp2⟩
        have HLen : Hid ((G.take i).length = i ∧ (G.drop i).length = d) := ⟨by rw [List.length_take, HL.out.1]; omega, by rw [List.length_drop, HL.out.1]; exact hd⟩
        have HSh : Hid (∀ g ∈ G, (∃ a n c, g.cv = .slice a n c) ∧ ∃ a n c, g.iv = .slice a n c) := fun g hg => (hG2.tabs g hg).1.shapes
        have G0 : Hid (Gw w2 w2 c ⟨SA, SN, SC⟩ G Sl.nil []) := Gw.start hG2
        have HD : Hid (SN - i = d) := hd
        have HHs2 : Hid (∀ W : World, (Instr.slice 26 (.slice SA SN SC) (some (.int .i64 (i : Int))) none none).run Tryz.prog W = .ok (.slice ad2 d cp2) W) := hs2
        have hiI : (i : Int) ≤ 4096 := by omega
        clear hG2 hn1 hn2 hp1 hp2 hs2 hd y1 y3
        go_upto_region 10 with (at_builtin; go_must (refine wpList_appG (N := i) rfl _ _ rfl (fun g hg => HSh.out g (List.mem_of_mem_take hg)) rfl G0.out.row rfl HLen.out.1 HNl.out.1 (G0.out.part HPt.out.1) (by show 0 + i = i; omega) (by omega) G0.out.base.size ?_; intro A1 c1 w3 r1 r2 r3))
        have G1 : Hid (Gw w2 w3 c ⟨SA, SN, SC⟩ G ⟨A1, i, c1⟩ (G.take i)) := G0.out.grow (M := G.take i) (by show 0 + _ = _; rw [HLen.out.1]; omega) r1.out r2.out
        have B3 : Hid (Below w.heap.size w w3) := B2.out.trans (G1.out.base.mono B2.out.size)
        obtain ⟨x0, x1, x2, x3⟩ := HXB.out w3 (B2'.out.trans (G1.out.base.mono B2'.out.size))
        have HC3 : Hid (Calls Tryz.prog 8 #[.agg #[.string nm, .slice ca n1 cc, .int .i64 key, .slice ia n2 ic]] w3 fun e w' => ∃ a1 a2 a3 a4 a5 a6, e = .returned (.agg #[.string nm, .slice a1 a2 a3, .int .i64 key, .slice a4 a5 a6]) ∧ Hid (∃ X', Below w3.heap.size w3 w' ∧ TabO w' w3.heap.size (.slice a1 a2 a3) (.slice a4 a5 a6) X' T)) := HCo.out w3 B3.out
        clear q0 r1 r2 r3 hs1 G0 HCo
        go_upto_region 11 with (first
          | (go_at_call 8; go_must (refine HC3.out.mono ?_; rintro e w4 ⟨a1, a2, a3, a4, a5, a6, rfl, K4⟩; obtain ⟨gg, Hgg⟩ : ∃ gg : Ge, Hid (enG gg = [.string nm, .slice a1 a2 a3, .int .i64 key, .slice a4 a5 a6] ∧ gg.T = T ∧ Below w3.heap.size w3 w4 ∧ TabO w4 w3.heap.size gg.cv gg.iv gg.X gg.T) := (by obtain ⟨X', k1, k2⟩ := K4.out; exact ⟨⟨T, .slice a1 a2 a3, .slice a4 a5 a6, X'⟩, by unfold enG; rw [HN.out.1, HN.out.2], rfl, k1, k2⟩); have G4 : Hid (∀ o : Obj, Gw w2 (w4.alloc o) c ⟨SA, SN, SC⟩ G ⟨A1, i, c1⟩ (G.take i)) := (fun o => (G1.out.fresh Hgg.out.2.2.1).fresh ((Below.refl _ w4).alloc (Nat.le_refl _) o))))
          | (at_builtin; go_must (refine wpList_appG (N := i + 1) (M := [gg]) rfl _ _ rfl (fun g hg => (by rw [List.mem_singleton.1 hg]; exact Hgg.out.2.2.2.shapes)) rfl (G4.out _).row rfl rfl (fun e => by cases e) (part_one w4 gg Hgg.out.1) rfl (by omega) (G4.out _).base.size ?_; intro A2 c2 w5 r1 r2 r3)))
        have G5 : Hid (Gw w2 w5 c ⟨SA, SN, SC⟩ G ⟨A2, i + 1, c2⟩ (G.take i ++ [gg])) := (G4.out _).grow (M := [gg]) rfl r1.out r2.out
        have HT5 : Hid (TabO w5 w3.heap.size gg.cv gg.iv gg.X gg.T) := by
          have h4 := Hgg.out.2.2.2
          refine h4.block fun j hj => ?_
          have hl := (h4.lt hj)
          refine (r2.out.block j (by simp; omega) (fun e => ?_)).trans (Below.heap_alloc w4 _ j hl.2)
          have := (World.ownsRow.lt G1.out.row j e).2
          omega
        have q1 : w5.cell? ⟨c, 0, none⟩ = some (.slice SA SN SC) := G5.out.cat.cell
        have hs2 := HHs2.out
        have HN2 : Hid (i + 1 + d = SN + 1) := by have := HD.out; show _ = _; omega
        obtain ⟨n3, hn3⟩ : ∃ n3, SN + 1 = n3 := ⟨_, rfl⟩
        rw [hn3] at HN2
        have hn3' : n3 ≤ 4096 := by omega
        clear r1 r2 r3 x0 x1 x2 x3 HC3 G4 HHs2
        go_wp2_with (at_builtin; go_must (refine wpList_appG (N := n3) rfl _ _ rfl (fun g hg => HSh.out g (List.mem_of_mem_drop hg)) rfl G5.out.row rfl HLen.out.2 HNl.out.2 (G5.out.part HPt.out.2) HN2.out (by omega) G5.out.base.size ?_; intro A3 c3 w6 r1 r2 r3; have G6 : Hid (Gw w2 w6 c ⟨SA, SN, SC⟩ G ⟨A3, n3, c3⟩ (G.take i ++ [gg] ++ G.drop i)) := G5.out.grow (M := G.drop i) (by rw [HLen.out.2]; exact HN2.out) r1.out r2.out; have q2 : w6.cell? ⟨c, 0, none⟩ = some (.slice SA SN SC) := G6.out.cat.cell; have q3 := frozen_of G6.out.cat.top 0; have HT6 : Hid (TabO w6 w3.heap.size gg.cv gg.iv gg.X gg.T) := HT5.out.block (fun j hj => r2.out.block j (HT5.out.lt hj).2 (fun e => by obtain ⟨cur, hc⟩ := own_at_block G5.out.row e; exact TabO.not_type HT5.out hc (by decide) (by decide) (by decide) hj))))
        go_ret
        refine ⟨by rw [HE.out.1]; rfl, ?_⟩
        have hcat : (catOf G).take i ++ (kb T.nm, T) :: (catOf G).drop i = catOf (G.take i ++ [gg] ++ G.drop i) := by
          unfold catOf
          rw [List.map_append, List.map_append, List.map_take, List.map_drop]
          simp [Hgg.out.2.1]
        rw [HE.out.2, hcat]
        have hmem : ∀ g ∈ G.take i ++ [gg] ++ G.drop i, g ∈ G ∨ g = gg := fun g hg => by
          rcases List.mem_append.1 hg with h | h
          · rcases List.mem_append.1 h with h | h
            · exact Or.inl (List.mem_of_mem_take h)
            · exact Or.inr (List.mem_singleton.1 h)
          · exact Or.inl (List.mem_of_mem_drop h)
        have hlen : (G.take i ++ [gg] ++ G.drop i).length ≤ 4096 := by rw [List.length_append, List.length_append, HLen.out.1, HLen.out.2]; have := HN2.out; simp; omega
        obtain ⟨t1, t2, t3⟩ := G6.out.take (fun g hg => by
          rcases hmem g hg with h | h
          · exact G6.out.cat.tabs g h
          · rw [h]; exact ⟨HT6.out.low (Nat.zero_le _), by rw [Hgg.out.2.1]; exact may_parts HMay.out⟩) hlen
        have hs3 := B3.out.size
        have hs2' := B2.out.size
        refine ⟨rcFoot c ⟨A3, n3, c3⟩ (G.take i ++ [gg] ++ G.drop i), ⟨_, _, t1, rfl, fun _ => Iff.rfl⟩, (Turn.ofBelow F B2.out).trans (t2.mono (S' := F) (fun j hj => (HF.out j).2 (Or.inl hj))), fun j hj => ?_⟩
        rcases t3 j hj with e | e | ⟨g, hg, e⟩
        · exact Or.inl ((HF.out j).2 (Or.inl e))
        · exact Or.inr (by omega)
        · rcases hmem g hg with h | h
          · exact Or.inl ((HF.out j).2 (Or.inr (Or.inr ⟨g, h, e⟩)))
          · rw [h] at e
            have := (HT6.out.lt e).1
            exact Or.inr (by omega)
      · have g1 : (4096 : Int) ≤ (SN : Int) := by omega
        have g2 : decide ((4096 : Int) ≤ (SN : Int)) = true := decide_eq_true g1
        have HE : Hid (crE (catOf G) T = 2 ∧ crL (catOf G) T = catOf G) := by
          have : crE (catOf G) T = 2 := by unfold crE; rw [HMay.out, HN.out.1, y1, if_pos rfl, HL.out.2, if_neg (by decide), if_pos (by omega)]
          exact ⟨this, by unfold crL; rw [this, if_neg (by decide)]⟩
        clear hG2 y1 y3
        go_wp2_with fail
        go_ret
        refine ⟨by rw [HE.out.1]; rfl, ?_⟩
        rw [HE.out.2]
        exact HSt.out _ B2.out

end Go.Proofs.YtnboanlhdllhnaaGreat
