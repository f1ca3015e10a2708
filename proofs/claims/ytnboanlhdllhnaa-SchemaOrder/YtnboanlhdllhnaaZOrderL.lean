/- SchemaOrder's walk. -/
import Derived.Test.YtnboanlhdllhnaaZSide
import Derived.Test.YtnboanlhdllhnaaZOrderP
import Derived.Test.YtnboanlhdllhnaaZWorks
import Derived.Test.YtnboanlhdllhnaaZTexts
namespace Go.Proofs.Ytnboanlhdllhnaa
open Go.RowKit Go.Maps

abbrev colO1 : Obj := .cells #[.string ⟨#[97]⟩, .int .i64 2] 32
theorem extra_at {u : World} {xb : Nat} {drop : ByteArray} (h : u.heap[xb]? = some colO1) (hd : drop.size ≤ reachBytes) : Tv.Ok u ⟨extra drop, .slice (some ⟨xb, 0, none⟩) 1 1, .slice none 0 0⟩ := by
  refine ⟨⟨sliceAt_flat (en := enC) (n := 2) (L := (extra drop).co) (cap := 1) (fun _ => rfl) h rfl (by show 1 ≤ 1; omega) (by decide), [], ⟨none, 0, rfl, Nat.le_refl _, by decide, fun h => absurd rfl h⟩, rfl, (fun _ h => by cases h)⟩, ⟨?_, fun c hc => ?_, ⟨by show (-9223372036854775808 : Int) ≤ 1; decide, by show (1 : Int) ≤ 9223372036854775807; decide⟩, (fun _ h => by cases h)⟩, hd⟩
  · show drop.size ≤ _
    unfold reachBytes at hd
    omega
  · rw [List.mem_singleton.1 hc]
    exact ⟨by decide, by decide, by decide⟩

/-- what loop 1 has come to -/
structure Lp (L0 : List Tv) (drop : ByteArray) (i : Nat) (I : List Tv) (S : List (List UInt8 × Unit)) : Prop where
  sub : ∀ t ∈ I, t ∈ L0
  ok : InOk drop (I.map Tv.T)
  seen : ∀ t ∈ I, ∃ x, (kb t.T.nm, x) ∈ S
  few : I.length ≤ i
  less : S.length ≤ i
theorem Lp.skip {L0 : List Tv} {drop : ByteArray} {i : Nat} {I : List Tv} {S : List (List UInt8 × Unit)} (h : Lp L0 drop i I S) (k : List UInt8) : Lp L0 drop (i + 1) I (Dk.putL k () S) :=
  ⟨h.sub, h.ok, fun t ht => putL_has k () S _ (Or.inl (h.seen t ht)), by have := h.few; omega, by have := putL_length k () S; have := h.less; omega⟩
theorem Lp.take {L0 : List Tv} {drop : ByteArray} {i : Nat} {I : List Tv} {S : List (List UInt8 × Unit)} (h : Lp L0 drop i I S) {t : Tv} (ht : t ∈ L0) (hn : Dk.getL (kb t.T.nm) S = none) (hd : t.T.nm ≠ drop) (hi : i < 20) : Lp L0 drop (i + 1) (I ++ [t]) (Dk.putL (kb t.T.nm) () S) := by
  have hf := h.few
  refine ⟨fun x hx => ?_, ⟨?_, fun T hT => ?_, by simp; omega⟩, fun x hx => ?_, by simp; omega, by have := putL_length (kb t.T.nm) () S; have := h.less; omega⟩
  · rcases List.mem_append.1 hx with hx | hx
    · exact h.sub x hx
    · rw [List.mem_singleton.1 hx]; exact ht
  · rw [List.map_append, List.map_append]
    refine List.nodup_append.2 ⟨h.ok.nodup, by simp, fun a ha b hb => ?_⟩
    obtain ⟨T, hT, rfl⟩ := List.mem_map.1 ha
    obtain ⟨x, hx, rfl⟩ := List.mem_map.1 hT
    obtain ⟨y, hy⟩ := h.seen x hx
    simp only [List.map_cons, List.map_nil, List.mem_singleton] at hb
    rw [hb]
    intro e
    exact Dk.getL_none hn _ hy (by rw [e])
  · rw [List.map_append] at hT
    rcases List.mem_append.1 hT with hT | hT
    · exact h.ok.ne T hT
    · simp only [List.map_cons, List.map_nil, List.mem_singleton] at hT
      rw [hT]; exact hd
  · rcases List.mem_append.1 hx with hx | hx
    · exact putL_has _ () S _ (Or.inl (h.seen x hx))
    · rw [List.mem_singleton.1 hx]; exact putL_has _ () S _ (Or.inr rfl)

namespace OrderL

set_option maxRecDepth 100000 in
set_option maxHeartbeats 8000000 in
theorem walk (v0 : Value) (L0 : List Tv) (drop : ByteArray) (w : World) (h0 : SliceAt w v0 4 enT L0) (hZ : ∀ a ∈ L0, a.Ok w) (hd : drop.size ≤ reachBytes) :
    Calls Try.prog 3 #[v0, .string drop] w fun e w' => e = .returned (.bool true) ∧ Below w.heap.size w w' := by
  obtain ⟨av, cv, rfl, hlc, hcm, hx⟩ := h0.opened
  unfold maxLen at hcm
  have HX : Hid (∀ u, Below w.heap.size w u → ∀ i t, L0[i]? = some t → ∃ b off, av = some ⟨b, off, none⟩ ∧ u.cell? ⟨b, off + i * 4, none⟩ = some (.string t.T.nm) ∧ u.cell? ⟨b, off + i * 4 + 1, none⟩ = some t.cv ∧ u.cell? ⟨b, off + i * 4 + 2, none⟩ = some (.int .i64 t.T.key) ∧ u.cell? ⟨b, off + i * 4 + 3, none⟩ = some t.iv) := fun u hu i t ht => by
    obtain ⟨hi, rfl⟩ := List.getElem?_eq_some_iff.1 ht
    obtain ⟨b, off, e, _, hc⟩ := hx u hu i hi
    exact ⟨b, off, e, hc 0 _ rfl, hc 1 _ rfl, hc 2 _ rfl, hc 3 _ rfl⟩
  have HZ : Hid (∀ a ∈ L0, a.Ok w) := hZ
  have HSh : Hid (∀ t ∈ L0, (∃ a n c, t.cv = .slice a n c) ∧ (∃ a n c, t.iv = .slice a n c) ∧ t.T.nm.size ≤ maxLen) := fun t ht => by
    obtain ⟨k1, X, k2, _⟩ := (hZ t ht).tab
    obtain ⟨a, c, e, _⟩ := k1
    obtain ⟨a', c', e', _⟩ := k2
    have := (hZ t ht).nm
    unfold reachBytes at this
    exact ⟨⟨a, _, c, e⟩, ⟨a', _, c', e'⟩, by unfold maxLen; omega⟩
  have HD : Hid (drop.size ≤ reachBytes) := hd
  have HDm : Hid (drop.size ≤ maxLen) := by show _ ≤ _; unfold reachBytes at hd; unfold maxLen; omega
  obtain ⟨m, hm⟩ : ∃ m, L0.length = m := ⟨_, rfl⟩
  have HM : Hid (L0.length = m) := hm
  rw [hm] at hlc ⊢
  have HN1 : Hid (Calls Try.prog 4 #[] w fun e w' => ∃ c, e = .returned (.pointer (some ⟨c, 0, none⟩)) ∧ Hid (Stand (CatI c []) w w' [])) := one_new w
  have HN2 : Hid (∀ u a, Stand (CatI a []) w u [] → Calls Try.prog 4 #[] u fun e w' => ∃ c, e = .returned (.pointer (some ⟨c, 0, none⟩)) ∧ Hid (TwoC a [] c [] w w' [])) := fun u a hu => two_new hu
  have HWk : Hid (∀ u, Calls Try.prog 5 #[] u fun e w' => e = .returned (.bool true) ∧ Below u.heap.size u w') := works_any
  have hmm := @run_makeMap Try.prog
  clear h0 hx hZ hm hd
  go_enter Try.func3, Try.ntmps3
  go_wp2_with fail
  refine HN1.out.mono ?_
  rintro e wa ⟨a, rfl, KA⟩
  go_wp2_with fail
  refine (HN2.out _ _ KA.out).mono ?_
  rintro e wb ⟨b, rfl, KB⟩
  clear HN1 HN2 KA
  go_wp2_with (go_at_call 5; go_must (refine (HWk.out _).mono ?_; rintro e w1 ⟨rfl, hb1⟩))
  have HS1 : Hid (TwoC a [] b [] w w1 []) := Stand.below (twoC_res _ _ _ _) KB.out hb1
  clear KB hb1 HWk
  obtain ⟨mb, hmb⟩ : ∃ mb, w1.heap.size = mb := ⟨_, rfl⟩
  have HMb : Hid (w1.heap.size = mb) := hmb
  rw [hmb]
  go_loopw [7, 9] (fun vi v wr => ∃ (i : Nat) (I : List Tv) (S : List (List UInt8 × Unit)) (n : Nat) (A : Option Addr) (cp : Nat), i ≤ 20 ∧ v = .int .i64 i ∧ vi = .slice A n cp ∧ Hid (Lp L0 drop i I S ∧ I.length = n) ∧ Hid (SeenAt wr mb S) ∧ Hid (wr.ownsRow (mb + 1) 30 4 (.slice A n cp) n (flat enT I)) ∧ Hid (Below w1.heap.size w1 wr)) (fun _ v _ => 20 - (intOf v).toNat)
  case atStart =>
    refine ⟨0, [], [], 0, none, 0, by omega, rfl, rfl, ⟨⟨(fun _ h => by cases h), ⟨by simp, (fun _ h => by cases h), by decide⟩, (fun _ h => by cases h), by decide, by decide⟩, rfl⟩, ?_, World.ownsRow_nil _ _ _ _, ?_⟩
    · show SeenAt _ _ _
      rw [← hmb]
      exact seen_made w1
    · exact (Below.refl _ _).alloc (Nat.le_refl _) _
  case round =>
    obtain ⟨i, I, S, n, A, cp, hi, rfl, rfl, HL, HSe, HR, HB⟩ := hrel
    have hbase : w.heap.size ≤ w1.heap.size := HS1.out.base.size
    by_cases hlt : i < m ∧ i < 20
    · obtain ⟨hlt, h20⟩ := hlt
      obtain ⟨t, ht⟩ : ∃ t, L0[i]? = some t := ⟨_, List.getElem?_eq_getElem (by rw [HM.out]; exact hlt)⟩
      have hmem := List.mem_of_getElem? ht
      have HBw : Hid (∀ u, Below w1.heap.size w1 u → Below w.heap.size w u) := fun u hu => HS1.out.base.trans (hu.mono hbase)
      obtain ⟨⟨a1, n1, c1, e1⟩, ⟨a2, n2, c2, e2⟩, hns⟩ := HSh.out t hmem
      obtain ⟨bb, off, rfl, q0, q1, q2, q3⟩ := HX.out wr (HBw.out _ HB.out) i t ht
      obtain ⟨nm, hnm⟩ : ∃ nm, t.T.nm = nm := ⟨_, rfl⟩
      obtain ⟨key, hkey⟩ : ∃ key, t.T.key = key := ⟨_, rfl⟩
      have HT : Hid (∀ u, Below w1.heap.size w1 u → u.cell? ⟨bb, off + i * 4, none⟩ = some (.string nm)) := fun u hu => by
        obtain ⟨b', off', e, r0, _⟩ := HX.out u (HBw.out _ hu) i t ht
        cases e
        rw [← hnm]; exact r0
      rw [hnm] at q0 hns
      rw [e1] at q1
      rw [hkey] at q2
      rw [e2] at q3
      have hlI : (i : Int) < (m : Int) := by omega
      have h20I : (i : Int) < 20 := by omega
      have HEn : Hid (enT t = [.string nm, .slice a1 n1 c1, .int .i64 key, .slice a2 n2 c2]) := by show _ = _; unfold enT; rw [hnm, hkey, e1, e2]
      have HTm : Hid (t ∈ L0 ∧ t.T.nm = nm) := ⟨hmem, hnm⟩
      have hlk := HSe.out.look hns
      have HNs : Hid (nm.size ≤ maxLen) := hns
      obtain ⟨sb, hsb⟩ : ∃ sb, (Dk.getL (kb nm) S).isSome = sb := ⟨_, rfl⟩
      rw [hsb] at hlk
      have HSb : Hid ((Dk.getL (kb nm) S).isSome = sb) := hsb
      -- what a store makes of it
      have HPut : Hid (∀ u I' S' n' A' cp', Below w1.heap.size w1 u → SeenAt u mb S → u.ownsRow (mb + 1) 30 4 (.slice A' n' cp') n' (flat enT I') → S' = Dk.putL (kb nm) () S → ∃ u', (Instr.mapUpdate 26 (.map (some mb)) (.string nm) (.bool true)).run Try.prog u = .ok () u' ∧ Hid (SeenAt u' mb S' ∧ u'.ownsRow (mb + 1) 30 4 (.slice A' n' cp') n' (flat enT I') ∧ Below w1.heap.size w1 u')) := fun u I' S' n' A' cp' hu hse hro hS' => by
        obtain ⟨u', k1, k2, k3⟩ := hse.put HNs.out (by have := HL.out.1.less; omega)
        refine ⟨u', k1, by rw [hS']; exact k2, ownsRow_block hro fun g hg => k3.block g (World.ownsRow.lt hro g hg).2 (by have := (World.ownsRow.lt hro g hg).1; omega), hu.trans ((k3.mono (S' := fun q => w1.heap.size ≤ q) (fun q hq => by have := HMb.out; omega)).toBelow hu.size)⟩
      clear ht hmem e1 e2 hnm hkey hsb hns
      by_cases hskip : sb = true ∨ nm = drop
      · -- it is passed by
        obtain ⟨u', hrun, HU⟩ := HPut.out wr I _ n A cp HB.out HSe.out HR.out rfl
        have HLs : Hid (Lp L0 drop (i + 1) I (Dk.putL (kb nm) () S) ∧ I.length = n) := ⟨HL.out.1.skip _, HL.out.2⟩
        cases sb with
        | true =>
          clear hskip HPut
          go_wp2_with fail
          go_roundw
          case rel => exact ⟨i + 1, I, _, n, A, cp, by omega, by go_num, rfl, HLs, HU.out.1, HU.out.2.1, HU.out.2.2⟩
          case measure => simp [intOf]; omega
        | false =>
          have e : nm = drop := by rcases hskip with h | h; · cases h
                                   · exact h
          subst e
          clear hskip HPut
          go_wp2_with fail
          go_roundw
          case rel => exact ⟨i + 1, I, _, n, A, cp, by omega, by go_num, rfl, HLs, HU.out.1, HU.out.2.1, HU.out.2.2⟩
          case measure => simp [intOf]; omega
      · -- it is taken
        have hsf : sb = false := by cases sb; · rfl
                                    · exact absurd (Or.inl rfl) hskip
        subst hsf
        have hne : nm ≠ drop := fun e => hskip (Or.inr e)
        have hne1 : (nm.toList == drop.toList) = false := by rw [beq_eq_false_iff_ne]; exact fun e => hne (toList_inj e)
        have hne2 : ¬ nm.toList = drop.toList := fun e => hne (toList_inj e)
        have HNo : Hid (Dk.getL (kb nm) S = none) := by
          show _ = _
          have := HSb.out
          cases hg : Dk.getL (kb nm) S with
          | none => rfl
          | some x => rw [hg] at this; cases this
        have HLt : Hid (Lp L0 drop (i + 1) (I ++ [t]) (Dk.putL (kb nm) () S)) := by
          have := HL.out.1.take HTm.out.1 (by rw [HTm.out.2]; exact HNo.out) (by rw [HTm.out.2]; exact hne) h20
          rw [HTm.out.2] at this
          exact this
        have HR' : Hid (∀ o : Obj, (wr.alloc o).ownsRow (mb + 1) 30 4 (.slice A n cp) I.length (flat enT I)) := fun o => by
          rw [HL.out.2]
          exact ownsRow_block HR.out fun g hg => Below.heap_alloc _ _ _ (World.ownsRow.lt HR.out g hg).2
        have HOne : Hid (∀ u ∈ enT t, u.oneCell' = true) := fun u hu => by
          rw [HEn.out] at hu
          simp only [List.mem_cons, List.not_mem_nil, or_false] at hu
          rcases hu with rfl | rfl | rfl | rfl <;> rfl
        have hmbl : mb < wr.heap.size := World.ownsMap.lt HSe.out
        have HF20 : Hid (I.length ≤ 1000) := by show _ ≤ _; have := HL.out.1.few; omega
        clear hskip hne
        go_wp2_with (at_builtin; go_must (refine wpList_appT rfl _ _ rfl (mb + 1) (.slice A n cp) I t rfl (HR'.out _) wr.heap.size rfl (by rw [HEn.out]; exact heap_new wr _) HOne.out HF20.out (by simp; omega) ?_; intro A' cp' w5 n' HN' HR5 HB5; have hB5 : Below w1.heap.size w1 w5 := (bl_alloc HB.out _).trans (HB5.out.mono (by have := HMb.out; omega)); have hse5 : SeenAt w5 mb S := HSe.out.block ((HB5.out.block mb (by omega)).trans (Below.heap_alloc _ _ _ hmbl)); have r0 := HT.out w5 hB5; obtain ⟨u', hrun, HU⟩ := HPut.out w5 (I ++ [t]) _ n' A' cp' hB5 hse5 HR5.out rfl))
        go_roundw
        case rel => exact ⟨i + 1, I ++ [t], _, n', A', cp', by omega, by go_num, rfl, ⟨HLt.out, by have := HN'.out; simpa using this⟩, HU.out.1, HU.out.2.1, HU.out.2.2⟩
        case measure => simp [intOf]; omega
    · have HIn : Hid (InOk drop (I.map Tv.T) ∧ (∀ t ∈ I, t ∈ L0) ∧ I.length = n ∧ n ≤ 20) := ⟨HL.out.1.ok, HL.out.1.sub, HL.out.2, by have := HL.out.1.ok.few; rw [List.length_map, HL.out.2] at this; exact this⟩
      have hex : (¬ (i : Int) < (m : Int)) ∨ ((i : Int) < (m : Int) ∧ ¬ (i : Int) < 20) := by omega
      obtain ⟨Lr, hr1, hr2⟩ := ownsRow_rows HR.out
      obtain ⟨xb, hxb⟩ : ∃ xb, wr.heap.size = xb := ⟨_, rfl⟩
      obtain ⟨w3, hw3⟩ : ∃ w3, wr.alloc colO1 = w3 := ⟨_, rfl⟩
      obtain ⟨w4, hw4⟩ : ∃ w4, w3.alloc (tabBox drop (some ⟨xb, 0, none⟩) 1 1 1 none 0 0) = w4 := ⟨_, rfl⟩
      have s3 : w3.heap.size = xb + 1 := by rw [← hw3, ← hxb]; simp
      have x3 : w3.heap[xb]? = some colO1 := by rw [← hw3, ← hxb]; exact heap_new wr _
      have b3 : Below wr.heap.size wr w3 := by rw [← hw3]; exact (Below.refl _ _).alloc (Nat.le_refl _) _
      have b4 : Below w3.heap.size w3 w4 := by rw [← hw4]; exact (Below.refl _ _).alloc (Nat.le_refl _) _
      have b34 : Below wr.heap.size wr w4 := b3.trans (b4.mono b3.size)
      have x4 : w4.heap[xb]? = some colO1 := (b4.block xb (by omega)).trans x3
      have y4 : w4.heap[xb + 1]? = some (tabBox drop (some ⟨xb, 0, none⟩) 1 1 1 none 0 0) := by rw [← s3, ← hw4]; exact heap_new w3 _
      have hB4 : Below w1.heap.size w1 w4 := HB.out.trans (b34.mono HB.out.size)
      obtain ⟨LL, hLL⟩ : ∃ LL, Lr ++ [(xb, colO1), (xb + 1, tabBox drop (some ⟨xb, 0, none⟩) 1 1 1 none 0 0)] = LL := ⟨_, rfl⟩
      have HS4 : Hid (TwoC a [] b [] w w4 LL) := by
        have := Stand.more (twoC_res _ _ _ _) HS1.out hB4 (L' := LL) (fun p hp => ?_)
        · rw [List.append_nil] at this
          exact this
        · rw [← hLL] at hp
          have hwz := HB.out.size
          rcases List.mem_append.1 hp with hp | hp
          · obtain ⟨j1, j2, _⟩ := hr1 p hp
            exact ⟨(b34.block p.1 (lt_of j1)).trans j1, by have := HMb.out; omega⟩
          · simp only [List.mem_cons, List.not_mem_nil, or_false] at hp
            rcases hp with rfl | rfl
            · exact ⟨x4, by simp only; omega⟩
            · exact ⟨y4, by simp only; omega⟩
      have HIx : Hid (∀ u : World, (∀ p ∈ LL, u.heap[p.1]? = some p.2) → (∀ (j : Nat) (t : Tv), I[j]? = some t → ∃ g, A = some ⟨g, 0, none⟩ ∧ u.cell? ⟨g, j * 4, none⟩ = some (.string t.T.nm) ∧ u.cell? ⟨g, j * 4 + 1, none⟩ = some t.cv ∧ u.cell? ⟨g, j * 4 + 2, none⟩ = some (.int .i64 t.T.key) ∧ u.cell? ⟨g, j * 4 + 3, none⟩ = some t.iv) ∧ u.heap[xb]? = some colO1 ∧ u.heap[xb + 1]? = some (tabBox drop (some ⟨xb, 0, none⟩) 1 1 1 none 0 0)) := fun u hu => by
        have hro := hr2 u (fun p hp => hu p (by rw [← hLL]; exact List.mem_append_left _ hp))
        refine ⟨fun j t ht => ?_, hu (xb, colO1) (by rw [← hLL]; simp), hu (xb + 1, tabBox drop (some ⟨xb, 0, none⟩) 1 1 1 none 0 0) (by rw [← hLL]; simp)⟩
        rcases id hro.2 with ⟨_, hz⟩ | ⟨g, cap, cur, e, _, hg, _⟩
        · have := (List.getElem?_eq_some_iff.1 ht).1
          have := HIn.out.2.2.1
          omega
        · cases e
          have hfl : ∀ f, f < 4 → (flat enT I)[j * 4 + f]? = (enT t)[f]? := fun f hf => by
            obtain ⟨hj, rfl⟩ := List.getElem?_eq_some_iff.1 ht
            have := flat_get (en := enT) (m := 4) (fun _ => rfl) I j hj f hf
            rw [Nat.mul_comm] at this
            exact this
          have hcl : ∀ f x, f < 4 → (enT t)[f]? = some x → u.cell? ⟨g, j * 4 + f, none⟩ = some x := fun f x hf hx => by
            have := World.ownsRow.cells hro (g := g) rfl (j * 4 + f) x ((hfl f hf).trans hx)
            rw [Addr.add_lit, Nat.zero_add] at this
            exact this
          exact ⟨g, rfl, hcl 0 _ (by omega) rfl, hcl 1 _ (by omega) rfl, hcl 2 _ (by omega) rfl, hcl 3 _ (by omega) rfl⟩
      have HCL : Hid (∀ (u : World) (A' B' : Cat), TwoC a A' b B' w u LL → ∀ (j : Nat) (t : Tv), I[j]? = some t → ∃ g a1 n1 c1 a2 n2 c2 nm key, A = some ⟨g, 0, none⟩ ∧ u.cell? ⟨g, j * 4, none⟩ = some (.string nm) ∧ u.cell? ⟨g, j * 4 + 1, none⟩ = some (.slice a1 n1 c1) ∧ u.cell? ⟨g, j * 4 + 2, none⟩ = some (.int .i64 key) ∧ u.cell? ⟨g, j * 4 + 3, none⟩ = some (.slice a2 n2 c2) ∧
          (Calls Try.prog 6 #[.pointer (some ⟨a, 0, none⟩), .agg #[.string nm, .slice a1 n1 c1, .int .i64 key, .slice a2 n2 c2]] u fun e w' => e = .returned (.int .i64 (crE A' t.T)) ∧ Hid (TwoC a (crL A' t.T) b B' w w' LL)) ∧
          (Calls Try.prog 6 #[.pointer (some ⟨b, 0, none⟩), .agg #[.string nm, .slice a1 n1 c1, .int .i64 key, .slice a2 n2 c2]] u fun e w' => e = .returned (.int .i64 (crE B' t.T)) ∧ Hid (TwoC a A' b (crL B' t.T) w w' LL))) := fun u A' B' hu j t ht => by
        obtain ⟨g, e, r0, r1, r2, r3⟩ := (HIx.out u (fun p hp => hu.at hp)).1 j t ht
        have hmem := HIn.out.2.1 t (List.mem_of_getElem? ht)
        obtain ⟨⟨a1, n1, c1, e1⟩, ⟨a2, n2, c2, e2⟩, _⟩ := HSh.out t hmem
        have k1 := TwoC.createL hu hu.base (HZ.out t hmem)
        have k2 := TwoC.createR hu hu.base (HZ.out t hmem)
        unfold tabVal at k1 k2
        rw [e1, e2] at k1 k2
        rw [e1] at r1
        rw [e2] at r3
        exact ⟨g, a1, n1, c1, a2, n2, c2, t.T.nm, t.T.key, e, r0, r1, r2, r3, k1, k2⟩
      have HCE : Hid (∀ (u : World) (A' B' : Cat), TwoC a A' b B' w u LL → u.cell? ⟨xb + 1, 0, none⟩ = some (.string drop) ∧ u.cell? ⟨xb + 1, 1, none⟩ = some (.slice (some ⟨xb, 0, none⟩) 1 1) ∧ u.cell? ⟨xb + 1, 2, none⟩ = some (.int .i64 1) ∧ u.cell? ⟨xb + 1, 3, none⟩ = some (.slice none 0 0) ∧
          (Calls Try.prog 6 #[.pointer (some ⟨b, 0, none⟩), .agg #[.string drop, .slice (some ⟨xb, 0, none⟩) 1 1, .int .i64 1, .slice none 0 0]] u fun e w' => e = .returned (.int .i64 (crE B' (extra drop))) ∧ Hid (TwoC a A' b (crL B' (extra drop)) w w' LL))) := fun u A' B' hu => by
        obtain ⟨_, j1, j2⟩ := HIx.out u (fun p hp => hu.at hp)
        exact ⟨by rw [cell_of j2]; rfl, by rw [cell_of j2]; rfl, by rw [cell_of j2]; rfl, by rw [cell_of j2]; rfl, TwoC.createR hu (Below.refl _ u) (extra_at j1 HD.out)⟩
      have hn20 : n ≤ 20 := HIn.out.2.2.2
      have hcp : n ≤ cp ∧ cp ≤ 9223372036854775807 := by
        rcases HR.out.2 with ⟨h1, h2⟩ | ⟨g, cap', cur, h1, _, _, h4, h5, _⟩
        · cases h1; omega
        · cases h1
          unfold maxLen at h5
          exact ⟨h4, by omega⟩
      obtain ⟨hcp1, hcp2⟩ := hcp
      clear x3 x4 y4 b3 b4 b34 hB4 hr1 hr2 hLL HL HSe HR HB HX HS1 hbase hlt HIx
      have HQ3 : Hid (wr.alloc colO1 = w3) := hw3
      have HQ4 : Hid (w3.alloc (tabBox drop (some ⟨xb, 0, none⟩) 1 1 1 none 0 0) = w4) := hw4
      have HQx : Hid (wr.heap.size = xb) := hxb
      clear hw3 hw4 hxb s3
      rcases hex with hE | ⟨hE, hE2⟩
      all_goals (
        go_wp2_with fail
        have hq3 := HQ3.out
        have hq4 := HQ4.out
        have hqx := HQx.out
        rw [hqx, hq3, hq4]
        clear hq3 hq4 hqx HQ3 HQ4 HQx hE
        -- all of them, in order
        go_loopw [77] (fun v wr => ∃ j : Nat, j ≤ n ∧ v = .int .i64 j ∧ Hid (TwoC a (upA (I.map Tv.T) j) b [] w wr LL)) (fun v _ => n - (intOf v).toNat)
        case atStart => exact ⟨0, Nat.zero_le _, rfl, HS4⟩
        case round =>
          clear HS4
          obtain ⟨j, hj, rfl, HI⟩ := hrel
          by_cases hlt : j < n
          · obtain ⟨t, ht⟩ : ∃ t, I[j]? = some t := ⟨_, List.getElem?_eq_getElem (by rw [HIn.out.2.2.1]; exact hlt)⟩
            obtain ⟨g, a1, n1, c1, a2, n2, c2, nm, key, rfl, q0, q1, q2, q3, k1, -⟩ := HCL.out wr _ _ HI.out j t ht
            have hlI : (j : Int) < (n : Int) := by omega
            have HUp : Hid (upA (I.map Tv.T) (j + 1) = crL (upA (I.map Tv.T) j) t.T) := upA_next (by rw [List.getElem?_map, ht]; rfl)
            obtain ⟨E, hE⟩ : ∃ E, crE (upA (I.map Tv.T) j) t.T = E := ⟨_, rfl⟩
            rw [hE] at k1
            have K1 : Hid (Calls Try.prog 6 #[.pointer (some ⟨a, 0, none⟩), .agg #[.string nm, .slice a1 n1 c1, .int .i64 key, .slice a2 n2 c2]] wr fun e w' => e = .returned (.int .i64 E) ∧ Hid (TwoC a (crL (upA (I.map Tv.T) j) t.T) b [] w w' LL)) := k1
            clear k1 hE ht
            go_wp2_with (go_at_call 6; go_must (refine K1.out.mono ?_; rintro e w5 ⟨rfl, H5⟩))
            go_roundw
            case rel => exact ⟨j + 1, by omega, by go_num, by show TwoC _ _ _ _ _ _ _; rw [HUp.out]; exact H5.out⟩
            case measure => simp [intOf]; omega
          · have hlI : ¬ (j : Int) < (n : Int) := by omega
            obtain rfl : j = n := by omega
            obtain ⟨UA, hUA⟩ : ∃ UA, upA (I.map Tv.T) j = UA := ⟨_, rfl⟩
            have HUA : Hid (upA (I.map Tv.T) j = UA) := hUA
            rw [hUA] at HI
            obtain ⟨q0, q1, q2, q3, k1⟩ := HCE.out wr _ _ HI.out
            obtain ⟨E, hE⟩ : ∃ E, crE [] (extra drop) = E := ⟨_, rfl⟩
            have HE : Hid (crE [] (extra drop) = E) := hE
            rw [hE] at k1
            have K1 : Hid (Calls Try.prog 6 #[.pointer (some ⟨b, 0, none⟩), .agg #[.string drop, .slice (some ⟨xb, 0, none⟩) 1 1, .int .i64 1, .slice none 0 0]] wr fun e w' => e = .returned (.int .i64 E) ∧ Hid (TwoC a UA b (crL [] (extra drop)) w w' LL)) := k1
            clear k1 hE hUA HI HCE
            go_wp2_with (go_at_call 6; go_must (refine K1.out.mono ?_; rintro e w6 ⟨rfl, H6⟩))
            clear K1 q0 q1 q2 q3
            have HITl : Hid ((I.map Tv.T).length = j) := by show _ = _; rw [List.length_map]; exact HIn.out.2.2.1
            obtain ⟨y0, hy0⟩ : ∃ y0 : Int, (j : Int) - 1 = y0 := ⟨_, rfl⟩
            rw [hy0]
            have HY0 : Hid (y0 = (j : Int) - 1) := hy0.symm
            -- the others, from the end
            go_loopw [13] (fun v wr => ∃ (y : Int) (q : Nat), v = .int .i64 y ∧ q ≤ j ∧ Hid (y = (q : Int) - 1) ∧ -1 ≤ y ∧ y ≤ 20 ∧ Hid (TwoC a UA b (dnB drop (I.map Tv.T) q) w wr LL)) (fun v _ => (intOf v + 1).toNat)
            case atStart => exact ⟨y0, j, rfl, Nat.le_refl _, HY0, by omega, by omega, (by show TwoC _ _ _ _ _ _ _; rw [← HITl.out, dnB_all]; exact H6.out)⟩
            case round =>
              clear H6 HY0 hy0
              obtain ⟨y, q, rfl, hq, HY, hy1, hy2, HI⟩ := hrel
              rcases q with _ | q
              · obtain rfl : y = -1 := by have := HY.out; omega
                have HSame : Hid (drL (dnB drop (I.map Tv.T) 0) drop = UA) := by show _ = _; rw [order_same HIn.out.1, HITl.out, HUA.out]
                have hDE := drop_tells HIn.out.1
                rw [HE.out] at hDE
                obtain ⟨D, hD⟩ : ∃ D, drE (dnB drop (I.map Tv.T) 0) drop = D := ⟨_, rfl⟩
                rw [hD] at hDE
                have KD : Hid (Calls Try.prog 7 #[.pointer (some ⟨b, 0, none⟩), .string drop] wr fun e w' => e = .returned (.int .i64 D) ∧ Hid (TwoC a UA b UA w w' LL)) := (TwoC.dropR HI.out HDm.out).mono fun e w' ⟨e1, e2⟩ => by
                  rw [hD] at e1
                  rw [HSame.out] at e2
                  exact ⟨e1, e2⟩
                have KE1 : Hid (∀ u, TwoC a UA b UA w u LL → Calls Try.prog 8 #[.pointer (some ⟨a, 0, none⟩)] u fun e w' => e = .returned (.tuple #[.string (encS UA), .int .i64 (encE UA)]) ∧ Hid (TwoC a UA b UA w w' LL)) := fun u hu => TwoC.encodeL hu
                have KE2 : Hid (∀ u, TwoC a UA b UA w u LL → Calls Try.prog 8 #[.pointer (some ⟨b, 0, none⟩)] u fun e w' => e = .returned (.tuple #[.string (encS UA), .int .i64 (encE UA)]) ∧ Hid (TwoC a UA b UA w w' LL)) := fun u hu => TwoC.encodeR hu
                have KN1 : Hid (∀ u, TwoC a UA b UA w u LL → Calls Try.prog 10 #[.pointer (some ⟨a, 0, none⟩)] u fun e w' => ∃ v, e = .returned v ∧ Hid (SliceAt w' v 1 enS (namesC UA)) ∧ Hid (TwoC a UA b UA w w' LL) ∧ Hid (Below u.heap.size u w')) := fun u hu => TwoC.namesL hu
                have KN2 : Hid (∀ u, TwoC a UA b UA w u LL → Calls Try.prog 10 #[.pointer (some ⟨b, 0, none⟩)] u fun e w' => ∃ v, e = .returned v ∧ Hid (SliceAt w' v 1 enS (namesC UA)) ∧ Hid (TwoC a UA b UA w w' LL) ∧ Hid (Below u.heap.size u w')) := fun u hu => TwoC.namesR hu
                have KS : Hid (∀ u v v', SliceAt u v 1 enS (namesC UA) → SliceAt u v' 1 enS (namesC UA) → Calls Try.prog 9 #[v, v'] u fun e w' => e = .returned (.bool true) ∧ ∃ m, w' = u.drewN m) := fun u v v' h1 h2 => by
                  have := sameTexts_any v v' (namesC UA) (namesC UA) u h1 h2
                  rw [decide_eq_true rfl] at this
                  exact this
                obtain ⟨es, hes⟩ : ∃ es, encS UA = es := ⟨_, rfl⟩
                obtain ⟨ee, hee⟩ : ∃ ee, encE UA = ee := ⟨_, rfl⟩
                rw [hes, hee] at KE1 KE2
                clear hD hes hee HI HSame HCL HSh HZ HY
                by_cases hE0 : E = 0
                · obtain rfl : D = 0 := hDE.2 hE0
                  subst hE0
                  clear hDE
                  go_wp2_with (first
                    | (go_at_call 7; go_must (refine KD.out.mono ?_; rintro e w7 ⟨rfl, H7⟩))
                    | (go_at_call 8; refine (KE2.out _ H8.out).mono ?_; rintro e w9 ⟨rfl, H9⟩)
                    | (go_at_call 8; go_must (refine (KE1.out _ H7.out).mono ?_; rintro e w8 ⟨rfl, H8⟩))
                    | (go_at_call 10; refine (KN2.out _ H10.out).mono ?_; rintro e w11 ⟨v11, rfl, S11, H11, B11⟩; have S10' : Hid (SliceAt w11 v10 1 enS (namesC UA)) := S10.out.below B11.out)
                    | (go_at_call 10; go_must (refine (KN1.out _ H9.out).mono ?_; rintro e w10 ⟨v10, rfl, S10, H10, B10⟩))
                    | (go_at_call 9; go_must (refine (KS.out _ _ _ S10'.out S11.out).mono ?_; rintro e w12 ⟨rfl, m12, rfl⟩)))
                  go_ret
                  exact ⟨rfl, H11.out.base.trans ((below_drewN _ _).mono H11.out.base.size)⟩
                · have hD0 : ¬ D = 0 := fun e => hE0 (hDE.1 e)
                  have f1 : (E == 0) = false := by rw [beq_eq_false_iff_ne]; exact hE0
                  have f2 : (D == 0) = false := by rw [beq_eq_false_iff_ne]; exact hD0
                  clear hDE
                  go_wp2_with (first
                    | (go_at_call 7; go_must (refine KD.out.mono ?_; rintro e w7 ⟨rfl, H7⟩))
                    | (go_at_call 8; refine (KE2.out _ H8.out).mono ?_; rintro e w9 ⟨rfl, H9⟩)
                    | (go_at_call 8; go_must (refine (KE1.out _ H7.out).mono ?_; rintro e w8 ⟨rfl, H8⟩))
                    | (go_at_call 10; refine (KN2.out _ H10.out).mono ?_; rintro e w11 ⟨v11, rfl, S11, H11, B11⟩; have S10' : Hid (SliceAt w11 v10 1 enS (namesC UA)) := S10.out.below B11.out)
                    | (go_at_call 10; go_must (refine (KN1.out _ H9.out).mono ?_; rintro e w10 ⟨v10, rfl, S10, H10, B10⟩))
                    | (go_at_call 9; go_must (refine (KS.out _ _ _ S10'.out S11.out).mono ?_; rintro e w12 ⟨rfl, m12, rfl⟩)))
                  go_ret
                  exact ⟨rfl, H11.out.base.trans ((below_drewN _ _).mono H11.out.base.size)⟩
              · obtain rfl : y = (q : Int) := by have := HY.out; omega
                obtain ⟨t, ht⟩ : ∃ t, I[q]? = some t := ⟨_, List.getElem?_eq_getElem (by rw [HIn.out.2.2.1]; omega)⟩
                obtain ⟨g, a1, n1, c1, a2, n2, c2, nm, key, rfl, q0, q1, q2, q3, -, k2⟩ := HCL.out wr _ _ HI.out q t ht
                have HDn : Hid (dnB drop (I.map Tv.T) q = crL (dnB drop (I.map Tv.T) (q + 1)) t.T) := dnB_next (by rw [List.getElem?_map, ht]; rfl)
                obtain ⟨E2, hE2'⟩ : ∃ E2, crE (dnB drop (I.map Tv.T) (q + 1)) t.T = E2 := ⟨_, rfl⟩
                rw [hE2'] at k2
                have K2 : Hid (Calls Try.prog 6 #[.pointer (some ⟨b, 0, none⟩), .agg #[.string nm, .slice a1 n1 c1, .int .i64 key, .slice a2 n2 c2]] wr fun e w' => e = .returned (.int .i64 E2) ∧ Hid (TwoC a UA b (crL (dnB drop (I.map Tv.T) (q + 1)) t.T) w w' LL)) := k2
                have hqj : (q : Int) < (j : Int) := by omega
                clear k2 hE2' ht
                go_wp2_with (go_at_call 6; go_must (refine K2.out.mono ?_; rintro e w7 ⟨rfl, H7⟩))
                go_roundw
                case rel => exact ⟨(q : Int) - 1, q, by go_num, by omega, (rfl : _ = _), by omega, by omega, (by show TwoC _ _ _ _ _ _ _; rw [HDn.out]; exact H7.out)⟩
                case measure => simp [intOf])

end OrderL
end Go.Proofs.Ytnboanlhdllhnaa
