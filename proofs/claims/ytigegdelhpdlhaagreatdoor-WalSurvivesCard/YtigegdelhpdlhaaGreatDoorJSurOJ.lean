import Derived.Test.YtigegdelhpdlhaaGreatDoorJTidSJ
import Derived.Test.YtigegdelhpdlhaaGreatDoorJTrimJ
import Derived.Test.YtigegdelhpdlhaaGreatDoorJMgGJ
import Derived.Test.YtigegdelhpdlhaaGreatDoorJSame2J
import Derived.Test.YtigegdelhpdlhaaGreatDoorJWorksJ
/- Layer 18: a disk behind a crash is opened, its log rotated and trimmed: what WalSurvives begins each stretch with. (Its first theorems out of JQuiet.) -/
namespace Go.Proofs.YtigegdelhpdlhaaGreatDoor
open Go.RowKit QP

section
variable {s : Dk.Dsk}
theorem burnt_up (h : s.down = false ∧ s.fused = false) : Dk.burnt s = false := by
  unfold Dk.burnt
  rw [h.1, h.2]
  rfl
theorem changeE_up (h : s.down = false ∧ s.fused = false) : Dk.changeE s = 0 := by unfold Dk.changeE; rw [burnt_up h]; rfl
theorem changeS_up (h : s.down = false ∧ s.fused = false) : Dk.changeS s = s := by unfold Dk.changeS; rw [burnt_up h, h.2]; rfl
end
theorem up_write {s : Dk.Dsk} (hup : s.down = false ∧ s.fused = false) (hrise : Dk.Rise s.fs) (f : ByteArray) (D : List UInt8) (hf : NameOkW f.data.toList) (hl : (Dk.fileOr (Dk.getL f.data.toList s.fs)).data.length + D.length ≤ 262144) (hn : s.fs.length < 64) :
    Dk.appendE s f.data.toList D = 0 ∧ Dk.syncE (Dk.appendS s f.data.toList D) f.data.toList = 0 ∧ (wrS s f D).down = false ∧ (wrS s f D).fused = false ∧ Dk.Rise (wrS s f D).fs ∧ (wrS s f D).fs.length ≤ s.fs.length + 1 ∧
    Dk.getL f.data.toList (wrS s f D).fs = some ⟨(Dk.fileOr (Dk.getL f.data.toList s.fs)).data ++ D, ((Dk.fileOr (Dk.getL f.data.toList s.fs)).data ++ D).length⟩ ∧ (∀ q, q ≠ f.data.toList → Dk.getL q (wrS s f D).fs = Dk.getL q s.fs) ∧
    (∀ p ∈ (wrS s f D).fs, p.1 = f.data.toList ∧ p.2.data.length = p.2.safe ∨ p ∈ s.fs) ∧ Dk.keysL (wrS s f D).fs = Dk.insN f.data.toList (Dk.keysL s.fs) ∧ Dk.delL f.data.toList (wrS s f D).fs = Dk.delL f.data.toList s.fs := by
  have hok := hf.ok
  obtain ⟨K, hK⟩ : ∃ K, f.data.toList = K := ⟨_, rfl⟩
  rw [hK] at hok hl ⊢
  have htl : Dk.tooLong s K D = false := by
    unfold Dk.tooLong
    rw [decide_eq_false (by omega), decide_eq_false (by omega)]
    simp
  have e1 : Dk.appendE s K D = 0 := by
    unfold Dk.appendE
    rw [hok, htl, changeE_up hup]
    rfl
  obtain ⟨o, ho⟩ : ∃ o, Dk.fileOr (Dk.getL K s.fs) = o := ⟨_, rfl⟩
  have e2 : Dk.appendS s K D = { s with fs := Dk.putL K ⟨o.data ++ D, o.safe⟩ s.fs } := by
    unfold Dk.appendS
    rw [hok, htl, burnt_up hup, changeS_up hup, ho]
    rfl
  have g1 := Dk.getL_put (k := K) (a := (⟨o.data ++ D, o.safe⟩ : Dk.Fil)) hrise
  have r1 := Dk.rise_putL (k := K) (a := (⟨o.data ++ D, o.safe⟩ : Dk.Fil)) hrise
  have hb1 : Dk.burnt (Dk.appendS s K D) = false := by
    rw [e2]
    exact burnt_up hup
  have f1 : Dk.findE (Dk.appendS s K D) K = 0 := by
    unfold Dk.findE
    rw [hok, e2, g1]
    rfl
  have e3 : Dk.syncE (Dk.appendS s K D) K = 0 := by
    unfold Dk.syncE
    rw [f1]
    unfold Dk.changeE
    rw [hb1]
    rfl
  have hW : wrS s f D = { s with fs := Dk.putL K ⟨o.data ++ D, (o.data ++ D).length⟩ (Dk.putL K ⟨o.data ++ D, o.safe⟩ s.fs) } := by
    show Dk.syncS (Dk.appendS s f.data.toList D) f.data.toList = _
    rw [hK]
    unfold Dk.syncS
    rw [f1, hb1]
    unfold Dk.changeS
    rw [hb1]
    rw [e2, g1]
    simp [hup.2, Dk.fileOr]
  rw [hW, ho]
  refine ⟨e1, e3, hup.1, hup.2, Dk.rise_putL r1, ?_, Dk.getL_put r1, fun q hq => ?_, fun p hp => ?_, ?_, ?_⟩
  · show (Dk.putL K _ (Dk.putL K _ s.fs)).length ≤ _
    rw [Dk.putL_putL]
    exact Dk.length_putL
  · show Dk.getL q (Dk.putL K _ (Dk.putL K _ s.fs)) = _
    rw [Dk.getL_put_ne r1 hq, Dk.getL_put_ne hrise hq]
  · rcases Dk.mem_putL.1 hp with rfl | ⟨hm, hne⟩
    · exact Or.inl ⟨rfl, rfl⟩
    · rcases Dk.mem_putL.1 hm with rfl | ⟨hm, _⟩
      · exact absurd rfl hne
      · exact Or.inr hm
  · show Dk.keysL (Dk.putL K _ (Dk.putL K _ s.fs)) = _
    rw [Dk.putL_putL, Dk.keys_putL]
  · show Dk.delL K (Dk.putL K _ (Dk.putL K _ s.fs)) = _
    rw [Dk.delL_putL, Dk.delL_putL]
/-- opened with marks -/
theorem up_renew {s : Dk.Dsk} (hup : s.down = false ∧ s.fused = false) (hrise : Dk.Rise s.fs) (hnames : ∀ p ∈ s.fs, NameOkW p.1) (hnonew : Dk.getL epochNB.data.toList s.fs = none) (n : Nat) (hn : s.fs.length < 64) :
    Dk.removeE s epochNB.data.toList = 5 ∧ renS1 s = s ∧ Dk.appendE (renS1 s) epochNB.data.toList (frameB (markN n)).data.toList = 0 ∧ Dk.syncE (Dk.appendS (renS1 s) epochNB.data.toList (frameB (markN n)).data.toList) epochNB.data.toList = 0 ∧
    Dk.renameE (renS2 s n) epochNB.data.toList epochB.data.toList = 0 ∧ ((renS s n).down = false ∧ (renS s n).fused = false) ∧ Dk.Rise (renS s n).fs ∧ (∀ p ∈ (renS s n).fs, NameOkW p.1) ∧ Dk.getL epochB.data.toList (renS s n).fs = some ⟨(frameB (markN n)).data.toList, (frameB (markN n)).data.toList.length⟩ ∧ (∀ q, q ≠ epochB.data.toList → Dk.getL q (renS s n).fs = Dk.getL q s.fs) ∧ Dk.keysL (renS s n).fs = Dk.insN epochB.data.toList (Dk.keysL s.fs) := by
  have ok1 := logK_epoch.2.2.1
  have ok2 := logK_epoch.2.2.2
  have f : Dk.findE s epochNB.data.toList = 5 := by
    unfold Dk.findE
    rw [if_pos (c := Dk.okName epochNB.data.toList = true) ok2, hnonew]
    rfl
  have e1 : renS1 s = s := by
    show Dk.removeS s _ = s
    unfold Dk.removeS
    rw [f]
    rfl
  have e0 : Dk.removeE s epochNB.data.toList = 5 := by
    unfold Dk.removeE
    rw [f]
    rfl
  have hd0 : (Dk.fileOr (Dk.getL epochNB.data.toList s.fs)).data = [] := by rw [hnonew]; rfl
  obtain ⟨a1, a2, a3, a4, a5, a6, a7, a8, a9, a10, a11⟩ := up_write hup hrise epochNB (frameB (markN n)).data.toList (Or.inr (Or.inl rfl)) (by rw [hd0, frameB_len, markN_size]; decide) hn
  rw [hd0, List.nil_append] at a7
  obtain ⟨s2, hs2⟩ : ∃ s2, wrS s epochNB (frameB (markN n)).data.toList = s2 := ⟨_, rfl⟩
  have e2 : renS2 s n = s2 := by
    show Dk.syncS (Dk.appendS (renS1 s) _ _) _ = s2
    rw [e1]
    exact hs2
  rw [hs2] at a3 a4 a5 a6 a7 a8 a9 a11
  have hb2 : Dk.burnt s2 = false := by
    unfold Dk.burnt
    rw [a3, a4]
    rfl
  have f2 : Dk.findE s2 epochNB.data.toList = 0 := by
    unfold Dk.findE
    rw [if_pos (c := Dk.okName epochNB.data.toList = true) ok2, a7]
    rfl
  obtain ⟨fr, hfr⟩ : ∃ f, (frameB (markN n)).data.toList = f := ⟨_, rfl⟩
  rw [hfr] at a1 a2 a7
  have e3 : renS s n = { s2 with fs := Dk.putL epochB.data.toList ⟨fr, fr.length⟩ (Dk.delL epochNB.data.toList s2.fs) } := by
    show Dk.renameS (renS2 s n) _ _ = _
    rw [e2]
    unfold Dk.renameS
    rw [if_pos (by rw [ok1, ok2]; rfl), if_pos f2, hb2, a7]
    have hc : Dk.changeS s2 = s2 := by
      unfold Dk.changeS
      rw [hb2, if_neg (by decide), a4, if_neg (by decide)]
    rw [hc, if_neg (by decide)]
    rfl
  have r3 := Dk.rise_delL (k := epochNB.data.toList) a5
  have g3 : ∀ q, q ≠ epochB.data.toList → Dk.getL q (renS s n).fs = Dk.getL q s.fs := fun q hq => by
    rw [e3]
    show Dk.getL q (Dk.putL _ _ _) = _
    rw [Dk.getL_put_ne r3 hq]
    by_cases e : q = epochNB.data.toList
    · rw [e, Dk.getL_del, hnonew]
    · rw [Dk.getL_del_ne a5 e, a8 q e]
  refine ⟨e0, e1, by rw [e1, hfr]; exact a1, by rw [e1, hfr]; exact a2, ?_, ?_, ?_, fun p hp => ?_, ?_, g3, ?_⟩
  · rw [e2]
    unfold Dk.renameE
    rw [if_pos (by rw [ok1, ok2]; rfl), if_pos f2]
    unfold Dk.changeE
    rw [hb2]
    rfl
  · rw [e3]; exact ⟨a3, a4⟩
  · rw [e3]; exact Dk.rise_putL r3
  · rw [e3] at hp
    rcases Dk.mem_putL.1 hp with rfl | ⟨hp, _⟩
    · exact Or.inl rfl
    · rcases a9 p (Dk.mem_delL.1 hp).1 with ⟨e, _⟩ | hp2
      · exact absurd e (Dk.mem_delL.1 hp).2
      · exact hnames p hp2
  · rw [e3]
    show Dk.getL _ (Dk.putL _ _ _) = _
    rw [Dk.getL_put r3, hfr]
  · rw [e3]
    show Dk.keysL (Dk.putL _ _ _) = _
    rw [Dk.keys_putL, a11, Dk.delL_other (Dk.getL_none hnonew)]

theorem nextG_fold {G : Nat} : ∀ (ks : List (List UInt8)) (n : Nat), (∀ k ∈ ks, isLogK k = true → genK k ≤ G) →
    n ≤ ks.foldl (fun n k => if isLogK k then max n (genK k + 1) else n) n ∧ ks.foldl (fun n k => if isLogK k then max n (genK k + 1) else n) n ≤ max n (G + 1) ∧ ∀ k ∈ ks, isLogK k = true → genK k < ks.foldl (fun n k => if isLogK k then max n (genK k + 1) else n) n
  | [], n, _ => ⟨Nat.le_refl _, Nat.le_max_left _ _, fun _ h => by cases h⟩
  | k :: ks, n, h => by
    have hk := h k (List.mem_cons_self ..)
    obtain ⟨f1, f2, f3⟩ := nextG_fold ks (if isLogK k then max n (genK k + 1) else n) fun q hq => h q (List.mem_cons_of_mem _ hq)
    rw [List.foldl_cons]
    by_cases hl : isLogK k = true
    · rw [if_pos hl] at f1 f2 f3 ⊢
      have := hk hl
      refine ⟨by omega, by omega, fun q hq hql => ?_⟩
      rcases List.mem_cons.1 hq with rfl | hq
      · omega
      · exact f3 q hq hql
    · rw [if_neg hl] at f1 f2 f3 ⊢
      refine ⟨f1, f2, fun q hq hql => ?_⟩
      rcases List.mem_cons.1 hq with rfl | hq
      · exact absurd hql hl
      · exact f3 q hq hql

/-- a disk that is opened: what is known of it ahead of its trimming -/
structure Opened (s : Dk.Dsk) (mk G : Nat) : Prop where
  up : s.down = false ∧ s.fused = false
  rise : Dk.Rise s.fs
  names : ∀ p ∈ s.fs, NameOkW p.1
  nonew : Dk.getL epochNB.data.toList s.fs = none
  gens : ∀ p ∈ s.fs, isLogK p.1 = true → genK p.1 < G
  marks : (Dk.fileOr (Dk.getL epochB.data.toList s.fs)).data = flatF ((if mk = 0 then [] else [mk]).map markN)
  whole : ∀ x, Dk.getL epochB.data.toList s.fs = some x → x.data.length = x.safe

theorem sOpen {c : Dk.Dsk} {LF : List UInt8 → List (Nat × Nat)} {Es : List Nat} {G0 mk d : Nat} (h : Crashed c LF Es G0) (hmk : lastE Es = mk) (hmk2 : mk ≤ 1000000) (hmany : ManyOk (allE mk LF (Dk.keysL c.fs))) :
    ∃ s3 G1, Opened s3 mk G1 ∧ G1 ≤ G0 + 1 ∧ ∀ w F, DiskI d c w F → Calls Tryz.prog 9 #[.pointer (some ⟨d, 0, none⟩), .int .i64 3] w fun e w' => ∃ l, e = .returned (.tuple #[.pointer (some ⟨l, 0, none⟩), .int .i64 0]) ∧ Goes (LD tB kB l d s3 ⟨wsN 3, mk, G1⟩) w w' F := by
  have hload : ∀ w F, DiskI d c w F → Calls Tryz.prog 46 #[.pointer (some ⟨d, 0, none⟩)] w fun e w' => ∃ v, e = .returned (.tuple #[v, .int .i64 (mk : Int)]) ∧ Below w.heap.size w w' := fun w F hD => by
    have := jload40_any d c tB kB LF Es w F hD h.wal (by decide) (by decide) (by rw [hmk]; exact hmany)
    rw [hmk] at this
    exact this.mono fun _ _ ⟨v, e1, _, _, _, h3⟩ => ⟨v, e1, h3⟩
  have key : ∀ s3 : Dk.Dsk, (∀ p ∈ s3.fs, NameOkW p.1) → (∀ u F', DiskI d c u F' → Calls Tryz.prog 56 #[.pointer (some ⟨d, 0, none⟩), .int .i64 (mk : Int)] u fun e w' => e = .returned (.tuple #[]) ∧ Goes (DiskI d s3) u w' F') →
      ∀ w F, DiskI d c w F → Calls Tryz.prog 9 #[.pointer (some ⟨d, 0, none⟩), .int .i64 3] w fun e w' => ∃ l, e = .returned (.tuple #[.pointer (some ⟨l, 0, none⟩), .int .i64 0]) ∧ Goes (LD tB kB l d s3 ⟨wsN 3, mk, nextGn (Dk.keysL s3.fs)⟩) w w' F := fun s3 hn hR w F hD => by
    refine jOpen_any (I' := fun l => LD tB kB l d s3 ⟨wsN 3, mk, nextGn (Dk.keysL s3.fs)⟩) (fun l => LD.res tB kB l d _ _) d 3 w (fun i hi => (DiskI.res d c).lt hD i hi) fun u hu => ?_
    exact jopen_any tB kB 3 mk (nextGn (Dk.keysL s3.fs)) (hD.below hu) (Or.inr (Or.inr (Or.inl rfl))) (hload u F (hD.below hu)) hR (fun u' F' h' => jnextG_any h' hn)
  have hgen : ∀ s3 : Dk.Dsk, (∀ f ∈ Dk.keysL s3.fs, f = epochB.data.toList ∨ f ∈ Dk.keysL c.fs) → nextGn (Dk.keysL s3.fs) ≤ G0 + 1 ∧ ∀ p ∈ s3.fs, isLogK p.1 = true → genK p.1 < nextGn (Dk.keysL s3.fs) := fun s3 hk => by
    obtain ⟨f1, f2, f3⟩ := nextG_fold (G := G0) (Dk.keysL s3.fs) 0 fun f hf hl => by
      rcases hk f hf with rfl | hf
      · rw [logK_epoch.1] at hl; cases hl
      · obtain ⟨p, hp, rfl⟩ := List.mem_map.1 hf
        exact h.gens p hp hl
    exact ⟨by unfold nextGn; omega, fun p hp hl => f3 p.1 (List.mem_map.2 ⟨p, hp, rfl⟩) hl⟩
  by_cases h0 : mk = 0
  · subst h0
    have hfs : (Dk.removeE c epochB.data.toList = 0 ∨ Dk.removeE c epochB.data.toList = 5) ∧ (Dk.removeS c epochB.data.toList).fs = Dk.delL epochB.data.toList c.fs ∧ (Dk.removeS c epochB.data.toList).down = false ∧ (Dk.removeS c epochB.data.toList).fused = false := by
      cases hg : Dk.getL epochB.data.toList c.fs with
      | none =>
        have f : Dk.findE c epochB.data.toList = 5 := by
          unfold Dk.findE
          rw [if_pos (c := Dk.okName epochB.data.toList = true) logK_epoch.2.2.1, hg]
          rfl
        unfold Dk.removeE Dk.removeS
        rw [f]
        exact ⟨Or.inr rfl, (Dk.delL_other (Dk.getL_none hg)).symm, h.up.1, h.up.2⟩
      | some x =>
        have f : Dk.findE c epochB.data.toList = 0 := by
          unfold Dk.findE
          rw [if_pos (c := Dk.okName epochB.data.toList = true) logK_epoch.2.2.1, hg]
          rfl
        unfold Dk.removeE Dk.removeS
        rw [f, if_pos rfl, if_pos rfl, burnt_up h.up, changeE_up h.up, changeS_up h.up]
        exact ⟨Or.inl rfl, rfl, h.up.1, h.up.2⟩
    obtain ⟨e1, e2, e3, e4⟩ := hfs
    have hnm : ∀ p ∈ (Dk.removeS c epochB.data.toList).fs, NameOkW p.1 := fun p hp => by
      rw [e2] at hp
      exact h.wal.names p (Dk.mem_delL.1 hp).1
    obtain ⟨g1, g2⟩ := hgen (Dk.removeS c epochB.data.toList) fun f hf => by
      obtain ⟨p, hp, rfl⟩ := List.mem_map.1 hf
      rw [e2] at hp
      exact Or.inr (List.mem_map.2 ⟨p, (Dk.mem_delL.1 hp).1, rfl⟩)
    refine ⟨Dk.removeS c epochB.data.toList, _, ⟨⟨e3, e4⟩, by rw [e2]; exact Dk.rise_delL h.wal.rise, hnm, ?_, g2, ?_, fun x hx => ?_⟩, g1, key _ hnm fun u F' hu => jrenew_none hu e1⟩
    · rw [e2, Dk.getL_del_ne h.wal.rise epochs_ne.symm]
      exact h.nonew
    · rw [e2, Dk.getL_del, if_pos rfl]
      rfl
    · rw [e2, Dk.getL_del] at hx
      cases hx
  · obtain ⟨r1, r2, r3, r4, r5, r6, r7, r8, r9, r10, r11⟩ := up_renew h.up h.wal.rise h.wal.names h.nonew mk (by have := h.few; omega)
    obtain ⟨g1, g2⟩ := hgen (renS c mk) fun f hf => by
      rw [r11] at hf
      rcases List.mem_cons.1 ((perm_insN _ _).mem_iff.1 hf) with rfl | hf
      · exact Or.inl rfl
      · exact Or.inr (List.mem_filter.1 hf).1
    refine ⟨renS c mk, _, ⟨r6, r7, r8, ?_, g2, ?_, fun x hx => ?_⟩, g1, key _ r8 fun u F' hu => jrenew_some mk hu (by omega) (by omega) (Or.inr r1) r3 r4 r5⟩
    · rw [r10 _ epochs_ne.symm]
      exact h.nonew
    · rw [r9, if_neg h0]
      simp [Dk.fileOr, flatF]
    · rw [r9] at hx
      cases hx
      rfl
theorem getL_noLogs {fs : List (List UInt8 × Dk.Fil)} (hr : Dk.Rise fs) (f : List UInt8) : Dk.getL f (noLogs fs) = if isLogK f = true then none else Dk.getL f fs := by
  by_cases hl : isLogK f = true
  · rw [if_pos hl]
    cases hg : Dk.getL f (noLogs fs) with
    | none => rfl
    | some x =>
      have hm := Dk.getL_mem hg
      have := (List.mem_filter.1 hm).2
      simp [hl] at this
  · rw [if_neg hl]
    cases hg : Dk.getL f fs with
    | some x =>
      exact getL_of_mem (p := (f, x)) (rise_filter hr _) (List.mem_filter.2 ⟨Dk.getL_mem hg, by simp [hl]⟩)
    | none =>
      cases hg2 : Dk.getL f (noLogs fs) with
      | none => rfl
      | some x => exact absurd rfl (Dk.getL_none hg _ (List.mem_filter.1 (Dk.getL_mem hg2)).1)
/-- trimmed, and with a fuse: a stretch begins -/
theorem Opened.begin {s : Dk.Dsk} {mk G ep : Nat} (h : Opened s mk G) (hlt : mk < ep) (hep : ep ≤ 1000000) (hG : G + 1 < 100) (n : Int) : SurvS [] ep mk (G + 1) (wsN 3) (fun _ => []) (if mk = 0 then [] else [mk]) (Dk.fuseS (trimS s) n) := by
  have hfs : (Dk.fuseS (trimS s) n).fs = noLogs s.fs := by
    unfold Dk.fuseS
    split <;> rfl
  have hdn : (Dk.fuseS (trimS s) n).down = false := by
    unfold Dk.fuseS
    split
    · exact h.up.1
    · exact h.up.1
  have honly : ∀ p ∈ noLogs s.fs, p.1 = epochB.data.toList := fun p hp => by
    obtain ⟨hm, hl⟩ := List.mem_filter.1 hp
    rcases h.names p hm with e | e | ⟨v, g, hv, hg, e⟩
    · exact e
    · exact absurd (List.mem_map.2 ⟨p, hm, e⟩) (fun hk => by
        obtain ⟨p2, hp2, e2⟩ := List.mem_map.1 hk
        exact Dk.getL_none h.nonew p2 hp2 e2)
    · rw [e, (logK_at hv hg).1] at hl
      cases hl
  have hgetE : Dk.getL epochB.data.toList (noLogs s.fs) = Dk.getL epochB.data.toList s.fs := by
    rw [getL_noLogs h.rise, if_neg (by rw [logK_epoch.1]; decide)]
  refine ⟨hdn, ⟨⟨hdn, rfl⟩, ?_, fun p hp => ?_, fun p hp => ?_, fun f hf => ?_, ?_, ?_⟩, fun f hf => ?_, fun _ _ => rfl, rfl, ?_, List.Pairwise.nil, (fun _ hp => by cases hp), fun wk hwk => ?_, (fun p hp => by cases hp), ?_, ?_, ⟨?_, ?_⟩, hlt, rfl, by decide, hG, hep⟩
  · show Dk.Rise (Dk.fuseS (trimS s) n).fs
    rw [hfs]
    exact rise_filter h.rise _
  · have hp2 : p ∈ noLogs s.fs := by rw [← hfs]; exact hp
    exact h.names p (List.mem_filter.1 hp2).1
  · have hp2 : p ∈ noLogs s.fs := by rw [← hfs]; exact hp
    have hm := (List.mem_filter.1 hp2).1
    have hg := getL_of_mem h.rise hm
    rw [honly p hp2] at hg
    exact h.whole p.2 hg
  · show (Dk.fileOr (Dk.getL f (Dk.fuseS (trimS s) n).fs)).data = _
    rw [hfs, getL_noLogs h.rise, if_pos hf]
    rfl
  · show (Dk.fileOr (Dk.getL _ (Dk.fuseS (trimS s) n).fs)).data = _
    rw [hfs, hgetE]
    exact h.marks
  · show Dk.getL _ (Dk.fuseS (trimS s) n).fs = none
    rw [hfs, getL_noLogs h.rise, if_neg (by rw [logK_epoch.2.1]; decide)]
    exact h.nonew
  · rw [hfs] at hf
    obtain ⟨p, hp, rfl⟩ := List.mem_map.1 hf
    exact Or.inl (honly p hp)
  · have e1 : allF (fun _ => ([] : List (Nat × Nat))) (Dk.keysL (Dk.fuseS (trimS s) n).fs) = [] := by
      unfold allF
      rw [List.flatMap_eq_nil_iff]
      exact fun _ _ => rfl
    rw [e1]
    exact List.Perm.refl _
  · rw [(List.mem_replicate.1 hwk).2]
    show 0 < tidN ep 0
    unfold tidN
    omega
  · split
    · next e => rw [e]; rfl
    · rfl
  · split
    · exact fun j hj => by cases hj
    · rename_i e
      intro j hj
      match j, hj with
      | 0, _ => exact (show 0 < mk by omega)
  · split
    · exact fun _ he => by cases he
    · exact fun e he => by simp at he; omega
  · split <;> simp
end Go.Proofs.YtigegdelhpdlhaaGreatDoor

/- Layer 18: WalSurvives's calls, with the law's own list beside the log. -/
namespace Go.Proofs.YtigegdelhpdlhaaGreatDoor
open Go.RowKit QP

/-- a slice of entries as an object -/
def EI (base : Nat) (t k : ByteArray) (v : Value) (L : List Er) (w : World) (F : Nat → Prop) : Prop := EntsO w base t k v L ∧ ∀ j, F j ↔ (v.ownBlock = some j ∨ ∃ e ∈ L, j = e.g ∨ j = e.x)
theorem EI.res (base : Nat) (t k : ByteArray) (v : Value) (L : List Er) : Res (EI base t k v L) := by
  refine ⟨fun {w F} h i hi => ?_, fun {w w' F S} h ht hS => ?_⟩
  · obtain ⟨h1, h2⟩ := h
    rcases (h2 i).1 hi with e | ⟨e, he, rfl | rfl⟩
    · exact (World.ownsRow.lt h1.row i e).2
    · exact lt_of (h1.ent e he).1
    · exact (h1.ent e he).2.1.1
  · obtain ⟨h1, h2⟩ := h
    exact ⟨h1.turn ht (fun g hg => hS g ((h2 g).2 (Or.inl hg))) (fun e he => ⟨hS _ ((h2 _).2 (Or.inr ⟨e, he, Or.inl rfl⟩)), hS _ ((h2 _).2 (Or.inr ⟨e, he, Or.inr rfl⟩))⟩), h2⟩
theorem EI.low {base : Nat} {t k : ByteArray} {v : Value} {L : List Er} {w : World} {F : Nat → Prop} (h : EI base t k v L w F) : ∀ j, F j → base ≤ j := fun j hj => by
  obtain ⟨h1, h2⟩ := h
  rcases (h2 j).1 hj with e | ⟨e, he, rfl | rfl⟩
  · exact (World.ownsRow.lt h1.row j e).1
  · exact (h1.ent e he).2.2.1
  · exact (h1.ent e he).2.2.2.1

section
variable {I I' J : World → (Nat → Prop) → Prop} {w u : World} {L : List (Nat × Obj)}
/-- a call on the first of two objects -/
theorem Stand.onFst (RJ : Res J) {f : FuncId} {args : Array Value} {E : Ending} (h : Stand (Sep I J) w u L) (hk : ∀ F, I u F → Calls Tryz.prog f args u fun e w' => e = E ∧ Goes I' u w' F) :
    Calls Tryz.prog f args u fun e w' => e = E ∧ Hid (Stand (Sep I' J) w w' L) := by
  obtain ⟨F, ⟨A, B, hI, hJ, hAB, hAF, hBF, _⟩, kF⟩ := h.any
  refine (hk A hI).mono ?_
  rintro e w' ⟨e1, hg⟩
  exact ⟨e1, kF _ _ (Sep.goL RJ hJ hAB hAF hBF hg)⟩
theorem Stand.anyLow (h : Stand I w u L) : ∃ F, I u F ∧ (∀ i, F i → w.heap.size ≤ i) ∧ Below w.heap.size w u ∧ ∀ (I' : World → (Nat → Prop) → Prop) (w' : World), Goes I' u w' F → Stand I' w w' L := by
  obtain ⟨F, h1, h2, h3, h4, h5⟩ := h
  refine ⟨F, h1, h2, h5, fun I' w' hg => ?_⟩
  obtain ⟨F', g1, g2, g3⟩ := hg
  refine ⟨F', g1, fun i hi => ?_, fun p hp hF => ?_, fun p hp => ⟨(g2.block p.1 (lt_of (h4 p hp).1) (h3 p hp)).trans (h4 p hp).1, (h4 p hp).2⟩, h5.trans ((g2.mono h2).toBelow h5.size)⟩
  · rcases g3 i hi with h | h
    · exact h2 i h
    · have := h5.size; omega
  · rcases g3 p.1 hF with h | h
    · exact h3 p hp h
    · have := lt_of (h4 p hp).1; omega
/-- the log is let go -/
theorem Stand.lose {t k : ByteArray} {l d : Nat} {s : Dk.Dsk} {Lg0 : Lg} (h : Stand (Sep (LD t k l d s Lg0) J) w u L) : Stand (Sep (DiskI d s) J) w u L := by
  obtain ⟨F, ⟨A1, B1, ⟨A, B, hD, _, _, hAF', _, _⟩, hE, hAB, hAF, hBF, _⟩, h2, h3, h4, h5⟩ := h
  refine ⟨fun i => A i ∨ B1 i, Sep.mk hD hE (fun j hj hk => hAB j (hAF' j hj) hk), fun j hj => ?_, fun p hp hj => ?_, h4, h5⟩
  · rcases hj with h | h
    · exact h2 j (hAF j (hAF' j h))
    · exact h2 j (hBF j h)
  · rcases hj with h | h
    · exact h3 p hp (hAF _ (hAF' _ h))
    · exact h3 p hp (hBF _ h)
/-- the law's own list beside an object: a new empty one -/
theorem Stand.withEI {base : Nat} {t k : ByteArray} (h : Stand I w u L) : Stand (Sep I (EI base t k (.slice none 0 0) [])) w u L := by
  obtain ⟨F, h1, h2, h3, h4, h5⟩ := h
  have hE : EI base t k (.slice none 0 0) [] u (fun _ => False) := ⟨ents_nil, fun j => ⟨fun h => h.elim, fun h => by
    rcases h with h | ⟨e, he, _⟩
    · cases h
    · cases he⟩⟩
  refine ⟨fun i => F i ∨ False, Sep.mk h1 hE (fun _ _ h => h), fun j hj => h2 j (hj.resolve_right id), fun p hp hj => h3 p hp (hj.resolve_right id), h4, h5⟩
end
section
variable {J : World → (Nat → Prop) → Prop} {w u : World} {L : List (Nat × Obj)} {d : Nat} {s : Dk.Dsk}
/-- Crash, of draws that came in -/
theorem sCrash (RJ : Res J) (h : Stand (Sep (DiskI d s) J) w u L) (v : Value) (ds : List Int) (hd : DrawsAt w (fun i => w.heap.size ≤ i) v ds) (hl : ds.length ≤ 4096) :
    Calls Tryz.prog 18 #[.pointer (some ⟨d, 0, none⟩), v] u fun e w' => e = .returned (.int .i64 0) ∧ Hid (Stand (Sep (DiskI d ⟨Dk.crashL s.fs ds, false, false, 0⟩) J) w w' L) := by
  obtain ⟨F, ⟨A, B, hD, hJ, hAB, hAF, hBF, _⟩, h2, h5, kF⟩ := h.anyLow
  obtain ⟨m, G, g1, g2⟩ := hD
  have hda : DrawsAt u (foot d m G) v ds := by
    obtain ⟨a, c, e1, e2, e3, e4, e5⟩ := hd
    refine ⟨a, c, e1, e2, e3, fun hr => ?_, e5⟩
    obtain ⟨b, off, q1, q2, q3, q4⟩ := e4 hr
    refine ⟨b, off, q1, Nat.lt_of_lt_of_le q2 h5.size, fun hf => ?_, fun i hi => (h5.cell (p := ⟨b, off + i, none⟩) q2).trans (q4 i hi)⟩
    have := h2 b (hAF b ((g2 b).2 hf))
    omega
  have he : Dk.crashE ds = 0 := by unfold Dk.crashE; rw [if_neg (by omega)]
  have hs : Dk.crashS s ds = ⟨Dk.crashL s.fs ds, false, false, 0⟩ := by unfold Dk.crashS; rw [if_neg (by omega)]
  have hc := crash_any v ds u g1 hda
  rw [he, hs] at hc
  refine hc.mono ?_
  rintro e w' ⟨e1, hg⟩
  refine ⟨e1, ?_⟩
  have hgo : Goes (DiskI d ⟨Dk.crashL s.fs ds, false, false, 0⟩) u w' A := hg.to g2
  exact kF _ _ (Sep.goL RJ hJ hAB hAF hBF hgo)
/-- Load, of a disk behind a crash -/
theorem sLoad {c : Dk.Dsk} {LF : List UInt8 → List (Nat × Nat)} {Es : List Nat} {G : Nat} (RJ : Res J) (h : Stand (Sep (DiskI d c) J) w u L) (q : Crashed c LF Es G) (hm : ManyOk (allE (lastE Es) LF (Dk.keysL c.fs))) :
    Calls Tryz.prog 19 #[.pointer (some ⟨d, 0, none⟩)] u fun e w' => ∃ v, e = .returned (.tuple #[v, .int .i64 ((lastE Es : Nat) : Int), .int .i64 0]) ∧ ∃ R, Hid (EntsO w' u.heap.size tB kB v (sortE R)) ∧ Hid (R.map Er.tn = allE (lastE Es) LF (Dk.keysL c.fs)) ∧ Hid (Stand (Sep (DiskI d c) J) w w' L) := by
  obtain ⟨F, ⟨A, B, hD, _⟩, _⟩ := id h
  refine (jLoad_calls (allE (lastE Es) LF (Dk.keysL c.fs)) u fun u' hu => jload40_any d c tB kB LF Es u' A (hD.below hu) q.wal (by decide) (by decide) hm).mono ?_
  rintro e w' ⟨v, e1, R, h1, h2, h3⟩
  exact ⟨v, e1, R, h1, h2, h.below (Sep.res (DiskI.res d c) RJ) h3.out⟩
end
/-- what was added: words that rise -/
structure AOk (A : List (Nat × Nat)) : Prop where
  inc : A.Pairwise (fun a b => a.1 < b.1)
  ok : ∀ p ∈ A, TidOk p.1
  few : A.length ≤ 30
theorem AOk.inj {A : List (Nat × Nat)} (h : AOk A) : ∀ a ∈ A, ∀ b ∈ A, a.1 = b.1 → a = b := fun a ha b hb e => by
  obtain ⟨i, hi, rfl⟩ := List.getElem_of_mem ha
  obtain ⟨j, hj, rfl⟩ := List.getElem_of_mem hb
  rcases Nat.lt_trichotomy i j with h1 | h1 | h1
  · have := List.pairwise_iff_getElem.1 h.inc i j hi hj h1
    omega
  · subst h1; rfl
  · have := List.pairwise_iff_getElem.1 h.inc j i hj hi h1
    omega
theorem AOk.upTo {A : List (Nat × Nat)} (h : AOk A) (D : Nat) : AOk (upTo D A) :=
  ⟨List.Pairwise.filter _ h.inc, fun p hp => h.ok p (List.mem_filter.1 hp).1, Nat.le_trans (List.length_filter_le _ _) h.few⟩
theorem AOk.many {A P : List (Nat × Nat)} (h : AOk A) (hp : P.Perm A) : ManyOk P := by
  refine Or.inr ⟨by rw [hp.length_eq]; have := h.few; omega, ?_⟩
  refine (hp.map (·.1)).nodup_iff.2 ?_
  unfold List.Nodup
  rw [List.pairwise_map]
  exact List.Pairwise.imp (fun {a b} h e => by omega) h.inc
theorem AOk.got {A : List (Nat × Nat)} (h : AOk A) {R : List Er} (hp : (R.map Er.tn).Perm A) : (sortE R).map Er.tn = A := by
  obtain ⟨z1, z2, z3⟩ := sortE_facts R
  refine sorted_same ((z2.map _).trans hp) ?_ (List.Pairwise.imp (fun {a b} h => Nat.le_of_lt h) h.inc) fun a ha b hb => ?_
  · rw [List.pairwise_map]
    exact z3
  · exact h.inj a (((z2.map _).trans hp).mem_iff.1 ha) b (((z2.map _).trans hp).mem_iff.1 hb)
end Go.Proofs.YtigegdelhpdlhaaGreatDoor

/- Layer 18: WalSurvives's own list grows by an entry. (Its first theorem out of JUp.) -/
namespace Go.Proofs.YtigegdelhpdlhaaGreatDoor
open Go.RowKit QP

/-- one entry more -/
theorem wpList_entX {w : World} {ops : Array Oper} {rest : List Oper} {o : Oper} {a : Act} {Q : Exit → Act → World → Prop} (hgd : o.guard = none) (sl x : Operand)
    (ho : o.op = .call { callee := .builtin .append, args := #[sl, x], argTypes := #[38, 38] })
    (base : Nat) (t k : ByteArray) (v : Value) (L : List Er) (hs : a.eval sl = v) (hown : EntsO w base t k v L) (e : Er) (p c : Nat) (hx : a.eval x = .slice (some ⟨p, 0, none⟩) 1 c) (hp : w.heap[p]? = some (.cells #[.int .u64 (e.T : Int), .slice (some ⟨e.g, 0, none⟩) 1 1] 42 (0, 0)))
    (he : w.heap[e.g]? = some (boxJ t k e.x) ∧ OneAt w e.x 2 (e.n : Int) ByteArray.empty ∧ base ≤ e.g ∧ base ≤ e.x ∧ v.ownBlock ≠ some e.g ∧ v.ownBlock ≠ some e.x) (hL : L.length ≤ 100000) (hbase : base ≤ w.heap.size)
    (h : ∀ v' w', Hid (EntsO w' base t k v' (L ++ [e])) → Hid (Turn (fun i => v.ownBlock = some i) w w') → Hid (v'.ownBlock = v.ownBlock ∨ v'.ownBlock = some w.heap.size) → wpList Tryz.prog ops Q rest (a.put o.dst v') w') : wpList Tryz.prog ops Q (o :: rest) a w := by
  obtain ⟨i0, hi, hz0, hz1, hz2⟩ := infoEn
  refine wpList_append_own_at _ hgd sl x 38 ho base 42 i0 (.agg #[.int .u64 0, .slice none 0 0]) 2 32 Tryz.underlying38 hi hz0 hz1 hz2 rfl (by decide) v L.length (flat enE L) hs hown.row ⟨p, 0, none⟩ 1 c (enE e) hx rfl (fun j u hu => ?_) (fun u hu => ?_) (by unfold maxLen; omega) (by omega) hbase (fun v' w' k1 k2 _ k4 => ?_)
  · rw [Addr.add_lit, Nat.zero_add, cell_of hp]
    match j, hu with
    | 0, hu => simpa [enE] using hu
    | 1, hu => simpa [enE] using hu
  · unfold enE at hu
    simp only [List.mem_cons, List.not_mem_nil, or_false] at hu
    rcases hu with rfl | rfl <;> rfl
  · have hT : Turn (fun i => v.ownBlock = some i) w w' := Turn.ofGrown k2 fun k hk => hk
    refine h v' w' ⟨?_, fun f hf => ?_⟩ hT k4
    · rw [List.length_append, flat_append]
      have e1 : flat enE [e] = enE e := by rw [flat_cons]; exact List.append_nil _
      rw [e1]
      exact k1
    · have key : ∀ f : Er, (w.heap[f.g]? = some (boxJ t k f.x) ∧ OneAt w f.x 2 (f.n : Int) ByteArray.empty ∧ base ≤ f.g ∧ base ≤ f.x ∧ v.ownBlock ≠ some f.g ∧ v.ownBlock ≠ some f.x) → w'.heap[f.g]? = some (boxJ t k f.x) ∧ OneAt w' f.x 2 (f.n : Int) ByteArray.empty ∧ base ≤ f.g ∧ base ≤ f.x ∧ v'.ownBlock ≠ some f.g ∧ v'.ownBlock ≠ some f.x := by
        intro f ⟨h1, h2, h3, h4, h5, h6⟩
        refine ⟨(hT.block _ (lt_of h1) h5).trans h1, oneAt_turn h2 hT h6, h3, h4, ?_, ?_⟩
        · intro e1
          rcases k4 with h | h
          · exact h5 (h ▸ e1)
          · rw [h] at e1
            have := lt_of h1
            simp only [Option.some.injEq] at e1
            omega
        · intro e1
          rcases k4 with h | h
          · exact h6 (h ▸ e1)
          · rw [h] at e1
            have := h2.1
            simp only [Option.some.injEq] at e1
            omega
      rcases List.mem_append.1 hf with hf | hf
      · exact key f (hown.ent f hf)
      · rw [List.mem_singleton.1 hf]
        exact key e he


/-- the list beside an object has grown -/
theorem Stand.grown {I : World → (Nat → Prop) → Prop} (RI : Res I) {w u u' : World} {base : Nat} {t k : ByteArray} {v v' : Value} {R : List Er} {e : Er} {og ox : Obj} (h : Stand (Sep I (EI base t k v R)) w u [(e.g, og), (e.x, ox)]) (hb : w.heap.size ≤ base) (hE : EntsO u' base t k v' (R ++ [e])) (hT : Turn (fun i => v.ownBlock = some i) u u') (ho : v'.ownBlock = v.ownBlock ∨ ∃ q, v'.ownBlock = some q ∧ u.heap.size ≤ q) :
    Stand (Sep I (EI base t k v' (R ++ [e]))) w u' [] := by
  obtain ⟨F, ⟨A, B, hI, hJ, hAB, hAF, hBF, _⟩, h2, h3, h4, h5⟩ := h
  have hlow := hJ.low
  obtain ⟨j1, j2⟩ := hJ
  have hI' : I u' A := RI.kept hI hT fun i hi hv => hAB i hi ((j2 i).2 (Or.inl hv))
  refine Stand.start (Sep.mk (B := fun j => v'.ownBlock = some j ∨ ∃ f ∈ R ++ [e], j = f.g ∨ j = f.x) hI' ⟨hE, fun _ => Iff.rfl⟩ fun j hj hk => ?_) (fun j hj => ?_) (h5.trans ((hT.mono (S' := fun i => w.heap.size ≤ i) fun i hi => Nat.le_trans hb (hlow i ((j2 i).2 (Or.inl hi)))).toBelow h5.size))
  · rcases hk with hk | ⟨f, hf, hk⟩
    · rcases ho with ho | ⟨q, ho, hq⟩
      · rw [ho] at hk
        exact hAB j hj ((j2 j).2 (Or.inl hk))
      · rw [ho] at hk
        cases hk
        have := RI.lt hI j hj
        omega
    · rcases List.mem_append.1 hf with hf | hf
      · exact hAB j hj ((j2 j).2 (Or.inr ⟨f, hf, hk⟩))
      · rw [List.mem_singleton.1 hf] at hk
        rcases hk with rfl | rfl
        · exact h3 (e.g, og) (by simp) (hAF _ hj)
        · exact h3 (e.x, ox) (by simp) (hAF _ hj)
  · rcases hj with hj | hj
    · exact h2 j (hAF j hj)
    · rcases hj with hj | ⟨f, hf, hj⟩
      · exact Nat.le_trans hb (World.ownsRow.lt hE.row j hj).1
      · obtain ⟨_, _, q3, q4, _⟩ := hE.ent f hf
        rcases hj with rfl | rfl
        · exact Nat.le_trans hb q3
        · exact Nat.le_trans hb q4
theorem oneAt_heap {w u : World} {x : Nat} {n : Int} {o : Obj} (h : OneAt w x 2 n ByteArray.empty) (h1 : w.heap[x]? = some o) (h2 : u.heap[x]? = some o) : OneAt u x 2 n ByteArray.empty := by
  have e : u.heap[x]? = w.heap[x]? := h2.trans h1.symm
  obtain ⟨a0, a1, a2, a3, a4⟩ := h
  have key : ∀ j, u.cell? ⟨x, j, none⟩ = w.cell? ⟨x, j, none⟩ := fun j => by
    simp only [World.cell?]
    rw [e]
  exact ⟨lt_of h2, (key 0).trans a1, (key 1).trans a2, (key 2).trans a3, (key 3).trans a4⟩
/-- what is known of the list beside an object, and of blocks of the law's own -/
theorem Stand.ents {I : World → (Nat → Prop) → Prop} {w u : World} {base : Nat} {t k : ByteArray} {v : Value} {R : List Er} {L : List (Nat × Obj)} (h : Stand (Sep I (EI base t k v R)) w u L) : EntsO u base t k v R ∧ ∀ p ∈ L, v.ownBlock ≠ some p.1 := by
  obtain ⟨F, ⟨A, B, _, hJ, _, _, hBF, _⟩, _, h3, _, _⟩ := h
  exact ⟨hJ.1, fun p hp e => h3 p hp (hBF _ ((hJ.2 _).2 (Or.inl e)))⟩
end Go.Proofs.YtigegdelhpdlhaaGreatDoor
