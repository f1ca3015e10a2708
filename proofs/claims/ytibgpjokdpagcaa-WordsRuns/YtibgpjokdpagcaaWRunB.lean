/- Run, where nothing is refused. -/
import Derived.Test.YtibgpjokdpagcaaWRun
namespace Go.Proofs.Ytibgpjokdpagcaa
open Go.RowKit

theorem runE_zero {T : List (List InsV)} {n : Nat} {ps : List Int} (h : runE T n ps = 0) : TasksOk T n ∧ ps.length ≤ 1048576 ∧ ∀ p ∈ ps, 0 ≤ p ∧ p < T.length := by
  unfold runE at h
  by_cases hk : (checkE T n).2.2 = 0
  · rw [if_pos hk] at h
    refine ⟨checkE_ok.1 hk, ?_⟩
    unfold pickE at h
    by_cases h1 : 1048576 < ps.length
    · rw [if_pos h1] at h; cases h
    · rw [if_neg h1] at h
      by_cases h2 : ∀ p ∈ ps, 0 ≤ p ∧ p < T.length
      · exact ⟨by omega, h2⟩
      · rw [if_neg h2] at h; cases h
  · rw [if_neg hk] at h; exact absurd h hk

theorem Mid.drewN {w wr : World} {g h : Nat} {T : List TaskV} {S : Sys} (hM : Mid w wr g h T S) (m : Nat) : Mid w (wr.drewN m) g h T S :=
  ⟨hM.room.kept (S := fun _ => False) (Turn.ofBelow _ (below_drewN wr m)) (fun h => h) (fun h => h), hM.res, hM.below.trans ((below_drewN wr m).mono hM.below.size), hM.new⟩

/-- the task that is picked -/
structure At (w wr : World) (g h : Nat) (T : List TaskV) (S : Sys) (n t : Nat) (x : TaskV) (m : Mc) (a : Option Addr) (k : Nat) : Prop where
  task : T[t]? = some x
  mc : S.ms[t]? = some m
  v : x.v = .slice a x.L.length k
  code : SliceAt w (.slice a x.L.length k) 4 InsV.en x.L
  ok : (St.mk m.r m.p S.c).Ok x.L n
  may : TaskOk x.L n
  loc : Loc wr wr g h (gOf T S.ms) t (t * 10) (.slice a x.L.length k) ⟨m.r, m.p, S.c⟩

theorem Mid.at {w wr : World} {g h : Nat} {vt : Value} {T : List TaskV} {S : Sys} {n t : Nat} (hM : Mid w wr g h T S) (hT : TasksAt w vt T) (hO : TasksOk (codes T) n) (hS : S.Ok (codes T) n) (ht : t < T.length) : ∃ x m a k, At w wr g h T S n t x m a k := by
  have hm : t < S.ms.length := by rw [hS.len, codes_length]; exact ht
  obtain ⟨a, k, e, h3⟩ := hT.each T[t] (List.getElem_mem ht)
  have hc : t < (codes T).length := by rw [codes_length]; exact ht
  have ec : (codes T).getD t [] = T[t].L := by rw [getD_get hc]; simp [codes]
  have hok := hS.each t hm
  rw [ec] at hok
  have hmay : TaskOk T[t].L n := hO.all _ (by simp [codes]; exact ⟨T[t], List.getElem_mem ht, rfl⟩)
  have hl : t < (gOf T S.ms).length := by rw [gOf_length (by rw [hS.len, codes_length])]; exact ht
  refine ⟨T[t], S.ms[t], a, k, List.getElem?_eq_getElem ht, List.getElem?_eq_getElem hm, e, ⟨a, k, rfl, h3⟩, hok, hmay, ⟨?_, Turn.refl _ _, hl, Nat.mul_comm _ _, hok.r8⟩⟩
  have eg : (gOf T S.ms).set t ⟨.slice a T[t].L.length k, S.ms[t].r, S.ms[t].p⟩ = gOf T S.ms := by
    rw [← e]
    have := gOf_get ht hm hl
    rw [← this]
    exact List.set_getElem_self hl
  show RoomG wr g h ((gOf T S.ms).set t ⟨.slice a T[t].L.length k, S.ms[t].r, S.ms[t].p⟩) S.c
  rw [eg]
  exact hM.room

section
variable {w wr w' : World} {g h : Nat} {T : List TaskV} {S : Sys} {n t : Nat} {x : TaskV} {m : Mc} {a : Option Addr} {k : Nat}
theorem At.getT (hA : At w wr g h T S n t x m a k) : (codes T).getD t [] = x.L := by
  rw [List.getD_eq_getElem?_getD]
  unfold codes
  rw [List.getElem?_map, hA.task]
  rfl
theorem At.getM (hA : At w wr g h T S n t x m a k) : S.ms.getD t Mc.new = m := by rw [List.getD_eq_getElem?_getD, hA.mc]; rfl
theorem At.stopped (hA : At w wr g h T S n t x m a k) (hs : x.L.length ≤ m.p) : S.pick (codes T) t = S := by
  unfold Sys.pick
  rw [hA.getT, hA.getM, if_pos hs]
theorem At.steps (hA : At w wr g h T S n t x m a k) (hs : ¬ x.L.length ≤ m.p) : S.pick (codes T) t = ⟨S.ms.set t ⟨(St.go x.L 64 ⟨m.r, m.p, S.c⟩).r, (St.go x.L 64 ⟨m.r, m.p, S.c⟩).p⟩, (St.go x.L 64 ⟨m.r, m.p, S.c⟩).c, S.steps + 1⟩ := by
  unfold Sys.pick
  rw [hA.getT, hA.getM, if_neg hs]
theorem At.next (hA : At w wr g h T S n t x m a k) (hM : Mid w wr g h T S) (hs : ¬ x.L.length ≤ m.p) (hl : Loc wr w' g h (gOf T S.ms) t (t * 10) (.slice a x.L.length k) (St.go x.L 64 ⟨m.r, m.p, S.c⟩)) : Mid w w' g h T (S.pick (codes T) t) := by
  have htl := (List.getElem?_eq_some_iff.1 hA.task).1
  have hnew := hM.new
  rw [hA.steps hs]
  refine ⟨?_, (hl.turn.block _ (lt_of hM.res) (by omega)).trans hM.res, hM.below.trans ((hl.turn.mono (fun i e => by show w.heap.size ≤ i; omega)).toBelow hM.below.size), hM.new⟩
  have e := gOf_set (ms := S.ms) htl ⟨(St.go x.L 64 ⟨m.r, m.p, S.c⟩).r, (St.go x.L 64 ⟨m.r, m.p, S.c⟩).p⟩
  show RoomG w' g h (gOf T (S.ms.set t ⟨(St.go x.L 64 ⟨m.r, m.p, S.c⟩).r, (St.go x.L 64 ⟨m.r, m.p, S.c⟩).p⟩)) _
  rw [e]
  have e2 : T[t] = x := (List.getElem?_eq_some_iff.1 hA.task).2
  rw [e2, hA.v]
  exact hl.room
end

section
variable {w : World} {vt vc vp : Value} {T : List TaskV} {c ps : List Int}

set_option maxRecDepth 100000 in
set_option maxHeartbeats 1000000 in
theorem run_ok (hT : TasksAt w vt T) (hC : WordsAt w vc c) (hW : Words c) (hP : IntsAt w vp ps) (hE : runE (codes T) c.length ps = 0) {S : Sys} (hS : (Sys.start (codes T) c).run (codes T) ps = S) :
    Calls Try.prog 13 #[vt, vc, vp] w fun e w' => ∃ h g2 g3, e = .returned (.tuple #[repV h c.length g2 g3 T.length S.steps, .int .i64 0]) ∧ RepG w' h g2 g3 S.c (S.ms.map Mc.r) (donesOf (codes T) S.ms) ∧ (w.heap.size ≤ h ∧ w.heap.size ≤ g2 ∧ w.heap.size ≤ g3) ∧ Below w.heap.size w w' := by
  obtain ⟨hO, hpl, hpr⟩ := runE_zero hE
  have HO : Hid (TasksOk (codes T) c.length) := hO
  have htl : T.length ≤ 4096 := by have := hO.len; rw [codes_length] at this; exact this
  have hcl : c.length ≤ 4096 := hO.few
  have HPR : Hid (∀ p ∈ ps, 0 ≤ p ∧ p < T.length) := by rw [codes_length] at hpr; exact hpr
  have HWs : Hid (Words c) := hW
  have HSR : Hid ((Sys.start (codes T) c).run (codes T) ps = S) := hS
  have hck : (checkE (codes T) c.length).2.2 = 0 := checkE_ok.2 hO
  have hpk : pickE T.length ps = 0 := by
    unfold runE at hE
    rw [if_pos hck, codes_length] at hE
    exact hE
  have HTw : Hid (TasksAt w vt T) := hT
  have HCw : Hid (WordsAt w vc c) := hC
  have HPw : Hid (IntsAt w vp ps) := hP
  obtain ⟨⟨at_, ct, rfl, -, hct, -⟩, -⟩ := hT
  obtain ⟨ac, cc, rfl, hlc, hcc, -⟩ := hC
  obtain ⟨ap, cp, rfl, hlp, hcp, hxp⟩ := hP
  have HXP : Hid (ps ≠ [] → ∃ b off, ap = some ⟨b, off, none⟩ ∧ b < w.heap.size ∧ ∀ i, (h : i < ps.length) → ∀ (j : Nat) (u : Value), ([Value.int .i64 ps[i]])[j]? = some u → w.cell? ⟨b, off + i * 1 + j, none⟩ = some u) := hxp
  unfold maxLen at hcc hct hcp
  clear hO hpr hW hS hE hxp
  go_enter Try.func13, Try.ntmps13
  go_wp2_with fail
  refine (check_any _ T c.length _ (HTw.out.below ((Below.refl _ _).alloc (Nat.le_refl _) _))).mono ?_
  rintro e w1 ⟨rfl, hb1⟩
  rw [hck]
  have HB1 : Hid (Below w.heap.size w w1) := ((Below.refl _ _).alloc (Nat.le_refl _) _).trans (hb1.mono (by simp))
  have HR1 : Hid (w1.heap[w.heap.size]? = some repZ) := (hb1.block _ (by simp)).trans (heap_new w _)
  clear hb1 hck
  go_wp2_with fail
  refine (picks_any _ ps T.length _ (HPw.out.below HB1.out)).mono ?_
  rintro e w2 ⟨rfl, rfl⟩
  rw [hpk]
  clear hpk
  have hmk := make_any Try.underlying23 infoU w1 c.length (by omega) (by omega)
  have hzs : (madeCells (Value.int .u64 0).cells (c.length * 1)).size = c.length := by simp [madeCells]
  generalize madeCells (Value.int .u64 0).cells (c.length * 1) = Z at hmk hzs
  have hbz : Below w.heap.size w (w1.alloc (.cells Z 38)) := HB1.out.alloc HB1.out.size _
  obtain ⟨W3, hcp3, hc3, ht3⟩ := copy_any (W := w1.alloc (.cells Z 38)) (h := w1.heap.size) (heap_new w1 _) hzs (HCw.out.below hbz)
  have h1w : w.heap.size < w1.heap.size := lt_of HR1.out
  have HB3 : Hid (Below w.heap.size w W3) := hbz.trans ((ht3.mono (fun i e => by show w.heap.size ≤ i; omega)).toBelow hbz.size)
  have HR3 : Hid (W3.heap[w.heap.size]? = some repZ) := (ht3.block _ (by simp; omega) (by omega)).trans ((Below.heap_alloc w1 _ _ h1w).trans HR1.out)
  have HC3 : Hid (∃ cur, W3.heap[w1.heap.size]? = some (.cells cur 38 (0, 0)) ∧ cur.toList = ucells c) := hc3
  obtain ⟨h, hh⟩ : ∃ h, w1.heap.size = h := ⟨_, rfl⟩
  rw [hh] at hmk hcp3 HC3 h1w
  clear hc3 ht3 hbz
  go_wp2_with fail
  refine (start_any _ T _ (HTw.out.below HB3.out) htl).mono ?_
  rintro e w4 ⟨rfl, hrow, hb4⟩
  have HM0 : Hid (Mid w w4 W3.heap.size h T (Sys.start (codes T) c)) := by
    obtain ⟨cur, hcu, hcl'⟩ := HC3.out
    refine ⟨⟨?_, ⟨cur, (hb4.block h (lt_of hcu)).trans hcu, hcl'⟩, ?_⟩, (hb4.block _ (lt_of HR3.out)).trans HR3.out, HB3.out.trans (hb4.mono HB3.out.size), ⟨lt_of HR3.out, h1w⟩⟩
    · show RowM _ _ (gOf T ((codes T).map fun _ => Mc.new))
      rw [gOf_start]
      exact hrow
    · have := lt_of hcu; omega
  obtain ⟨g, hg⟩ : ∃ g, W3.heap.size = g := ⟨_, rfl⟩
  rw [hg] at HM0
  try simp only [hg]
  clear hrow hb4 hmk hcp3 HC3 HR3 HB3 HR1 HB1 hh hg h1w hzs
  go_wp2_with fail
  go_loopw [14, 48] (fun s i wr => ∃ j : Nat, j ≤ ps.length ∧ i = .int .i64 j ∧ ∃ S' : Sys, (Sys.start (codes T) c).run (codes T) (ps.take j) = S' ∧ s = .int .i64 S'.steps ∧ Mid w wr g h T S' ∧ S'.Ok (codes T) c.length ∧ S'.steps ≤ j) (fun _ i _ => ps.length - (intOf i).toNat)
  case atStart => exact ⟨0, Nat.zero_le _, rfl, _, rfl, rfl, HM0.out, Sys.Ok.start HWs.out, Nat.le_refl _⟩
  case round =>
    obtain ⟨j, hj, rfl, S', hrun, rfl, hmid, hok, hst⟩ := hrel
    have HM : Hid (Mid w wr g h T S') := hmid
    have HK : Hid (S'.Ok (codes T) c.length) := hok
    have HU : Hid ((Sys.start (codes T) c).run (codes T) (ps.take j) = S') := hrun
    clear hmid hok hrun HM0
    by_cases hlt : j < ps.length
    · have hlI : (j : Int) < (ps.length : Int) := by omega
      obtain ⟨b, off, rfl, hbl, hcs⟩ := HXP.out (by intro e; rw [e] at hlt; simp at hlt)
      obtain ⟨tI, hte⟩ : ∃ t, ps[j] = t := ⟨_, rfl⟩
      obtain ⟨ht0, ht1⟩ := HPR.out tI (hte ▸ List.getElem_mem hlt)
      obtain ⟨t, rfl⟩ := Int.eq_ofNat_of_zero_le ht0
      have htT : t < T.length := by omega
      have q := hcs j hlt 0 _ rfl
      rw [hte, Nat.mul_one, Nat.add_zero] at q
      have p0 : wr.cell? ⟨b, off + j, none⟩ = some (.int .i64 (t : Int)) := (HM.out.below.cell hbl).trans q
      have HN : Hid ((Sys.start (codes T) c).run (codes T) (ps.take (j + 1)) = S'.pick (codes T) t) := by
        have := Sys.run_take (codes T) (Sys.start (codes T) c) ps hlt
        rw [HU.out, hte] at this
        exact this
      obtain ⟨x, m, a, k, hA⟩ := HM.out.at HTw.out HO.out HK.out htT
      have HA : Hid (At w wr g h T S' c.length t x m a k) := hA
      have HK2 : Hid ((S'.pick (codes T) t).Ok (codes T) c.length) := HK.out.pick HO.out.all (by rw [codes_length]; exact htT)
      have c1 := hA.loc.code
      have c2 := hA.loc.place
      dsimp only at c2
      clear hA hcs q hte
      by_cases hs : x.L.length ≤ m.p
      · have hd : decide (x.L.length ≤ m.p) = true := decide_eq_true hs
        have HE2 : Hid (S'.pick (codes T) t = S') := HA.out.stopped hs
        go_wp2_with fail
        refine (stopped_any g (t * 10) a x.L.length k m.p wr c1 c2).mono ?_
        rintro e w5 ⟨rfl, q, rfl⟩
        rw [hd]
        go_wp2_with fail
        go_roundw
        case rel => exact ⟨j + 1, by omega, by go_num, S', HN.out.trans HE2.out, rfl, HM.out.drewN q, HK.out, by omega⟩
        case measure => simp [intOf]; omega
      · have hd : decide (x.L.length ≤ m.p) = false := decide_eq_false hs
        have HE2 : Hid ((S'.pick (codes T) t).steps = S'.steps + 1) := by rw [HA.out.steps hs]; exact rfl
        go_wp2_with fail
        refine (stopped_any g (t * 10) a x.L.length k m.p wr c1 c2).mono ?_
        rintro e w5 ⟨rfl, q, rfl⟩
        rw [hd]
        have HM5 : Hid (Mid w (wr.drewN q) g h T S') := HM.out.drewN q
        have HA5 : Hid (At w (wr.drewN q) g h T S' c.length t x m a k) := ⟨HA.out.task, HA.out.mc, HA.out.v, HA.out.code, HA.out.ok, HA.out.may, ⟨(HA.out.loc.below (below_drewN wr q)).room, Turn.refl _ _, HA.out.loc.lt, HA.out.loc.off, HA.out.loc.r8⟩⟩
        go_wp2_with fail
        refine (step_any HA5.out.code HM5.out.below (by have := HM5.out.new; omega) (by have := HM5.out.new; omega) HA5.out.loc HA5.out.ok HA5.out.may hcl).mono ?_
        rintro e w6 ⟨rfl, hl6⟩
        have HM6 : Hid (Mid w w6 g h T (S'.pick (codes T) t)) := HA5.out.next HM5.out hs hl6
        clear hl6
        go_wp2_with fail
        go_roundw
        case rel => exact ⟨j + 1, by omega, by go_num, S'.pick (codes T) t, HN.out, by rw [HE2.out]; go_num, HM6.out, HK2.out, by rw [HE2.out]; omega⟩
        case measure => simp [intOf]; omega
    · have hgI : ¬ (j : Int) < (ps.length : Int) := by omega
      have ej : j = ps.length := by omega
      subst ej
      have eS : S' = S := by
        have := HU.out
        rw [List.take_length, HSR.out] at this
        exact this.symm
      subst eS
      have hgl : (gOf T S'.ms).length = T.length := gOf_length (by rw [HK.out.len, codes_length])
      have HRp : Hid (Calls Try.prog 27 #[.slice (some ⟨g, 0, none⟩) T.length T.length, .slice (some ⟨h, 0, none⟩) c.length c.length, .int .i64 (S'.steps : Int)] wr fun e w' => ∃ g2 g3, e = .returned (repV h c.length g2 g3 T.length S'.steps) ∧ RowR w' g2 (S'.ms.map Mc.r) ∧ RowB w' g3 (donesOf (codes T) S'.ms) ∧ g2 ≠ g3 ∧ wr.heap.size ≤ g2 ∧ wr.heap.size ≤ g3 ∧ Below wr.heap.size wr w') := by
        have := report_any (n := c.length) (k := S'.steps) HM.out.room (fun y hy => by
          obtain ⟨i, hi, rfl⟩ := List.getElem_of_mem hy
          rw [gOf_get (by omega) (by rw [HK.out.len, codes_length]; omega) hi]
          obtain ⟨a, k, e, _⟩ := HTw.out.each T[i] (List.getElem_mem (by omega))
          exact ⟨a, _, k, e⟩) (by omega)
        rw [hgl, gOf_r (by rw [HK.out.len, codes_length]), gOf_dn HTw.out] at this
        exact this
      go_wp2_with fail
      refine HRp.out.mono ?_
      rintro e w5 ⟨g2, g3, rfl, hr5, hd5, hn5, hg2, hg3, hb5⟩
      have HM5 : Hid (Mid w w5 g h T S') := ⟨HM.out.room.kept (S := fun _ => False) (Turn.ofBelow _ hb5) (fun h => h) (fun h => h), (hb5.block _ (lt_of HM.out.res)).trans HM.out.res, HM.out.below.trans (hb5.mono HM.out.below.size), HM.out.new⟩
      have HF : Hid (RepG w5 h g2 g3 S'.c (S'.ms.map Mc.r) (donesOf (codes T) S'.ms) ∧ w.heap.size < g2 ∧ w.heap.size < g3) := by
        have l1 := HM.out.room.lt
        have l2 := HM.out.new
        exact ⟨⟨HM5.out.room.cel, hr5, hd5, by omega, by omega, hn5⟩, by omega, by omega⟩
      obtain ⟨y0, y1, y2, y3, z⟩ := res_cells HM5.out.res
      clear hr5 hd5 hb5 hg2 hg3 hn5 HRp
      go_wp2_with fail
      have hS := res_set HM5.out.res (.slice (some ⟨h, 0, none⟩) c.length c.length) (.slice (some ⟨g2, 0, none⟩) T.length T.length) (.slice (some ⟨g3, 0, none⟩) T.length T.length) (.int .i64 (S'.steps : Int)) _ rfl
      generalize (((w5.setCell ⟨w.heap.size, 0, none⟩ (.slice (some ⟨h, 0, none⟩) c.length c.length)).setCell ⟨w.heap.size, 1, none⟩ (.slice (some ⟨g2, 0, none⟩) T.length T.length)).setCell ⟨w.heap.size, 2, none⟩ (.slice (some ⟨g3, 0, none⟩) T.length T.length)).setCell ⟨w.heap.size, 3, none⟩ (.int .i64 (S'.steps : Int)) = W at hS ⊢
      obtain ⟨c0, c1, c2, c3, ht⟩ := hS
      try simp only [Exit.inBlock, Exit.then]
      refine bodyPost_ret (by simp [results, Try.results13, go_sem, c0, c1, c2, c3]; rfl) rfl ?_
      refine ⟨h, g2, g3, rfl, ?_, ?_, ?_⟩
      · obtain ⟨⟨⟨u1, k1, k1'⟩, ⟨u2, k2, k2'⟩, ⟨u3, k3, k3'⟩, k4⟩, k5, k6⟩ := HF.out
        have l2 := HM.out.new
        exact ⟨⟨u1, (ht.block _ (lt_of k1) (by omega)).trans k1, k1'⟩, ⟨u2, (ht.block _ (lt_of k2) (by omega)).trans k2, k2'⟩, ⟨u3, (ht.block _ (lt_of k3) (by omega)).trans k3, k3'⟩, k4⟩
      · have l2 := HM.out.new
        have l3 := HF.out.2
        omega
      · exact HM5.out.below.trans ((ht.mono (fun i e => by rw [e]; exact Nat.le_refl _)).toBelow HM5.out.below.size)

end
end Go.Proofs.Ytibgpjokdpagcaa
