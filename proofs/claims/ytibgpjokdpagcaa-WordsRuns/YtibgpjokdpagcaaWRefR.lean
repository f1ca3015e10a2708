/- The document's Run. -/
import Derived.Test.YtibgpjokdpagcaaWRefA
import Derived.Test.YtibgpjokdpagcaaWRefP
import Derived.Test.YtibgpjokdpagcaaWRefC
import Derived.Test.YtibgpjokdpagcaaWLend
import Derived.Test.YtibgpjokdpagcaaWRefK
namespace Go.Proofs.Ytibgpjokdpagcaa
open Go.RowKit

section
variable {w : World} {vt vc vp : Value} {T : List TaskV} {c ps : List Int}

set_option maxRecDepth 100000 in
set_option maxHeartbeats 20000000 in
theorem rrun_ok (hT : TasksAt w vt T) (hC : WordsAt w vc c) (hW : Words c) (hN : NilOk vc) (hP : IntsAt w vp ps) (hE : runE (codes T) c.length ps = 0) {S : Sys} (hS : (Sys.start (codes T) c).run (codes T) ps = S) :
    Calls Try.prog 14 #[vt, vc, vp] w fun e w' => ∃ v1 v2 v3, e = .returned (.tuple #[.agg #[v1, v2, v3, .int .i64 (S.steps : Int)], .int .i64 0]) ∧ (∀ W : World, w'.heap.size ≤ W.heap.size → (∀ i, w.heap.size ≤ i → i < w'.heap.size → W.heap[i]? = w'.heap[i]?) → WordsAt W v1 S.c ∧ RegsAt W v2 (S.ms.map Mc.r) ∧ BoolsAt W v3 (donesOf (codes T) S.ms)) ∧ Below w.heap.size w w' := by
  obtain ⟨hO, hpl, hpr⟩ := runE_zero hE
  have HO : Hid (TasksOk (codes T) c.length) := hO
  have htl : T.length ≤ 4096 := by have := hO.len; rw [codes_length] at this; exact this
  have hcl : c.length ≤ 4096 := hO.few
  have HPR : Hid (∀ p ∈ ps, 0 ≤ p ∧ p < T.length) := by rw [codes_length] at hpr; exact hpr
  have HWs : Hid (Words c) := hW
  have HSR : Hid ((Sys.start (codes T) c).run (codes T) ps = S) := hS
  have hck : (checkE (codes T) c.length).2.2 = 0 := checkE_ok.2 hO
  have HTw : Hid (TasksAt w vt T) := hT
  have HCw : Hid (WordsAt w vc c) := hC
  have HNc : Hid (NilOk vc) := hN
  have HPw : Hid (IntsAt w vp ps) := hP
  obtain ⟨⟨at_, ct, rfl, -, hct, -⟩, -⟩ := hT
  obtain ⟨ac, cc, rfl, hlc, hcc, -⟩ := hC
  obtain ⟨ap, cp, rfl, hlp, hcp, hxp⟩ := hP
  have HXP : Hid (ps ≠ [] → ∃ b off, ap = some ⟨b, off, none⟩ ∧ b < w.heap.size ∧ ∀ i, (h : i < ps.length) → ∀ (j : Nat) (u : Value), ([Value.int .i64 ps[i]])[j]? = some u → w.cell? ⟨b, off + i * 1 + j, none⟩ = some u) := hxp
  have hplI : ¬ (1048576 : Int) < (ps.length : Int) := by omega
  unfold maxLen at hcc hct hcp
  clear hO hpr hW hS hE hxp hN
  go_enter Try.func14, Try.ntmps14
  go_wp2_with fail
  refine (rcheck_any _ T c.length _ (HTw.out.below ((Below.refl _ _).alloc (Nat.le_refl _) _))).mono ?_
  rintro e w1 ⟨rfl, hb1⟩
  rw [checkE_zero hck]
  have HB1 : Hid (Below w.heap.size w w1) := ((Below.refl _ _).alloc (Nat.le_refl _) _).trans (hb1.mono (by simp))
  have HR1 : Hid (w1.heap[w.heap.size]? = some repZ) := (hb1.block _ (by simp)).trans (heap_new w _)
  clear hb1 hck
  go_wp2_with fail
  go_loopw [11] (fun i wr => ∃ j : Nat, j ≤ ps.length ∧ i = .int .i64 j ∧ wr = w1) (fun i _ => ps.length - (intOf i).toNat)
  case atStart => exact ⟨0, Nat.zero_le _, rfl, rfl⟩
  case round =>
    obtain ⟨j, hj, rfl, rfl⟩ := hrel
    by_cases hlt : j < ps.length
    · have hlI : (j : Int) < (ps.length : Int) := by omega
      obtain ⟨b, off, rfl, hbl, hcs⟩ := HXP.out (by intro e; rw [e] at hlt; simp at hlt)
      obtain ⟨tI, hte⟩ : ∃ t, ps[j] = t := ⟨_, rfl⟩
      obtain ⟨ht0, ht1⟩ := HPR.out tI (hte ▸ List.getElem_mem hlt)
      have q := hcs j hlt 0 _ rfl
      rw [hte, Nat.mul_one, Nat.add_zero] at q
      have p0 : wr.cell? ⟨b, off + j, none⟩ = some (.int .i64 tI) := (HB1.out.cell hbl).trans q
      clear hcs q hte
      go_wp2_with fail
      go_roundw
      case rel => exact ⟨j + 1, by omega, by go_num, by first | rfl | trivial⟩
      case measure => simp [intOf]; omega
    · have hgI : ¬ (j : Int) < (ps.length : Int) := by omega
      have hmk := make_any Try.underlying24 infoI wr T.length (by omega) (by omega)
      have hzp := made_flat (en := ei') (m := 1) (fun _ => rfl) (by omega) (d := (0 : Int)) (z := (Value.int .i64 0).cells) rfl T.length
      generalize madeCells (Value.int .i64 0).cells (T.length * 1) = Zp at hmk hzp
      go_wp2_with fail
      rename_i K hK
      obtain ⟨mb, hmb⟩ : ∃ mb, wr.heap.size + 1 = mb := ⟨_, rfl⟩
      have key : Hid (∀ (u : World) (pb rb db : Nat) (vq : Value) (y1 y3 y4 y5 y7 y8 y9 y10 y11 y13 y14 y15 y16 y17 y18 y19 y20 y21 y22 y23 y24 y25 y26 y27 y28 y29 y30 y31 y32 y33 y34 y35 y36 y37 y38 y39 y40 y41 y42 y43 y44 y45 y46 y47 y48 y49 y50 y51 y52 y53 y54 y55 y56 y57 y58 y59 y60 y61 y62 y63 y64 y65 y66 y67 y68 y69 y70 y71 y72 y73 y74 y75 y76 y77 y78 y79 y80 y81 y82 y83 y84 y85 y86 y87 y88 y89 y90 y91 y92 y93 y94 y95 y96 y97 y98 y99 y100 y101 y102 y103 y104 y105 y106 y107 y108 y109 y110 y111 y112 y113 y114 y115 y116 y117 y118 y119 y120 y121 y122 y123 y124 y125 y126 y127 y128 y129 y130 y131 y132 : Value), RefG w u mb pb rb db (.slice at_ T.length ct) vq T.length c.length (List.replicate T.length 0) (List.replicate T.length zero8) (List.replicate T.length false) c 0 → K { tmps := List.toArray (.slice at_ T.length ct :: y1 :: .slice ap ps.length cp :: y3 :: y4 :: y5 :: .pointer (some ⟨w.heap.size, 0, none⟩) :: y7 :: y8 :: y9 :: y10 :: y11 :: .pointer (some ⟨mb, 0, none⟩) :: y13 :: y14 :: y15 :: y16 :: y17 :: y18 :: y19 :: y20 :: y21 :: y22 :: y23 :: y24 :: y25 :: y26 :: y27 :: y28 :: y29 :: y30 :: y31 :: y32 :: y33 :: y34 :: y35 :: y36 :: y37 :: y38 :: y39 :: y40 :: y41 :: y42 :: y43 :: y44 :: y45 :: y46 :: y47 :: y48 :: y49 :: y50 :: y51 :: y52 :: y53 :: y54 :: y55 :: y56 :: y57 :: y58 :: y59 :: y60 :: y61 :: y62 :: y63 :: y64 :: y65 :: y66 :: y67 :: y68 :: y69 :: y70 :: y71 :: y72 :: y73 :: y74 :: y75 :: y76 :: y77 :: y78 :: y79 :: y80 :: y81 :: y82 :: y83 :: y84 :: y85 :: y86 :: y87 :: y88 :: y89 :: y90 :: y91 :: y92 :: y93 :: y94 :: y95 :: y96 :: y97 :: y98 :: y99 :: y100 :: y101 :: y102 :: y103 :: y104 :: y105 :: y106 :: y107 :: y108 :: y109 :: y110 :: y111 :: y112 :: y113 :: y114 :: y115 :: y116 :: y117 :: y118 :: y119 :: y120 :: y121 :: y122 :: y123 :: y124 :: y125 :: y126 :: y127 :: y128 :: y129 :: y130 :: y131 :: y132 :: []), defers := [] } u) := by
        as_aux_lemma =>
          intro u pb rb db vq y1 y3 y4 y5 y7 y8 y9 y10 y11 y13 y14 y15 y16 y17 y18 y19 y20 y21 y22 y23 y24 y25 y26 y27 y28 y29 y30 y31 y32 y33 y34 y35 y36 y37 y38 y39 y40 y41 y42 y43 y44 y45 y46 y47 y48 y49 y50 y51 y52 y53 y54 y55 y56 y57 y58 y59 y60 y61 y62 y63 y64 y65 y66 y67 y68 y69 y70 y71 y72 y73 y74 y75 y76 y77 y78 y79 y80 y81 y82 y83 y84 y85 y86 y87 y88 y89 y90 y91 y92 y93 y94 y95 y96 y97 y98 y99 y100 y101 y102 y103 y104 y105 y106 y107 y108 y109 y110 y111 y112 y113 y114 y115 y116 y117 y118 y119 y120 y121 y122 y123 y124 y125 y126 y127 y128 y129 y130 y131 y132 hu
          have HU : Hid (RefG w u mb pb rb db (.slice at_ T.length ct) vq T.length c.length (List.replicate T.length 0) (List.replicate T.length zero8) (List.replicate T.length false) c 0) := hu
          clear hu hmk
          apply hK
          clear hK
          go_wp2_with fail
          go_loopw [13] (fun i wr => ∃ j : Nat, j ≤ ps.length ∧ i = .int .i64 j ∧ ∃ S' Ps R D c' k, (Sys.start (codes T) c).run (codes T) (ps.take j) = S' ∧ RefG w wr mb pb rb db (.slice at_ T.length ct) vq T.length c.length Ps R D c' k ∧ Abs (codes T) S' Ps R D c' k ∧ S'.Ok (codes T) c.length ∧ S'.steps ≤ j) (fun i _ => ps.length - (intOf i).toNat)
          case atStart =>
            refine ⟨0, Nat.zero_le _, rfl, Sys.start (codes T) c, _, _, _, _, _, rfl, HU.out, ?_, Sys.Ok.start HWs.out, Nat.le_refl _⟩
            have := Abs.start (codes T) c
            rw [codes_length] at this
            exact this
          case round =>
            obtain ⟨j, hj, rfl, S', Ps, R, D, c', k, hrun, href, habs, hok, hst⟩ := hrel
            have HRf : Hid (RefG w wr mb pb rb db (.slice at_ T.length ct) vq T.length c.length Ps R D c' k) := href
            have HAb : Hid (Abs (codes T) S' Ps R D c' k) := habs
            have HK' : Hid (S'.Ok (codes T) c.length) := hok
            have HU' : Hid ((Sys.start (codes T) c).run (codes T) (ps.take j) = S') := hrun
            have hks : k = S'.steps := habs.k
            have hkb : k ≤ 1048576 := by omega
            have HKS : Hid (S'.steps ≤ j) := hst
            clear hrun href habs hok HU hks hst
            by_cases hlt : j < ps.length
            · have hlI : (j : Int) < (ps.length : Int) := by omega
              obtain ⟨b, off, rfl, hbl, hcs⟩ := HXP.out (by intro e; rw [e] at hlt; simp at hlt)
              obtain ⟨tI, hte⟩ : ∃ t, ps[j] = t := ⟨_, rfl⟩
              obtain ⟨ht0, ht1⟩ := HPR.out tI (hte ▸ List.getElem_mem hlt)
              obtain ⟨t, rfl⟩ := Int.eq_ofNat_of_zero_le ht0
              have htT : t < T.length := by omega
              have q := hcs j hlt 0 _ rfl
              rw [hte, Nat.mul_one, Nat.add_zero] at q
              have p0 : wr.cell? ⟨b, off + j, none⟩ = some (.int .i64 (t : Int)) := (HRf.out.below.cell hbl).trans q
              have HNx : Hid ((Sys.start (codes T) c).run (codes T) (ps.take (j + 1)) = S'.pick (codes T) t) := by
                have := Sys.run_take (codes T) (Sys.start (codes T) c) ps hlt
                rw [HU'.out, hte] at this
                exact this
              obtain ⟨tb, to, ct', ta, tc, hTa⟩ := HTw.out.task htT
              have HTa : Hid (TaskAt w (.slice at_ T.length ct) T.length t T[t].L tb to ct' ta tc) := hTa
              have htc : t < (codes T).length := by rw [codes_length]; exact htT
              have HcL : Hid ((codes T).getD t [] = T[t].L) := by show _ = _; rw [getD_get htc]; simp [codes]
              obtain ⟨p, hp, hpl', hpa⟩ := HAb.out.each t htc
              have HPp : Hid (Ps.getD t 0 = (p : Int)) := hp
              obtain ⟨d, hd⟩ : ∃ d, D.getD t false = d := ⟨_, rfl⟩
              have HDd : Hid (D.getD t false = d) := hd
              have HPl : Hid (p ≤ T[t].L.length ∧ (S'.ms.getD t Mc.new).p = absP T[t].L p d) := by
                rw [HcL.out] at hpl' hpa
                rw [hd] at hpa
                exact ⟨hpl', hpa⟩
              have HK2 : Hid ((S'.pick (codes T) t).Ok (codes T) c.length) := HK'.out.pick HO.out.all htc
              have HKS2 : Hid ((S'.pick (codes T) t).steps ≤ j + 1) := by have h1 := (Sys.pick_steps (codes T) S' t).2; have h2 := HKS.out; show _ ≤ _; omega
              clear hcs q hte hTa hp hd hpl' hpa
              go_wp2_with fail
              refine (rstopped_any HRf.out HTa.out htT htl HPp.out HDd.out).mono ?_
              rintro e w5 ⟨rfl, q5, rfl⟩
              have HR5 : Hid (RefG w (wr.drewN q5) mb pb rb db (.slice at_ T.length ct) vq T.length c.length Ps R D c' k) := HRf.out.stay (below_drewN wr q5)
              rw [absP_stopped]
              by_cases hs : T[t].L.length ≤ absP T[t].L p d
              · have hsd : decide (T[t].L.length ≤ absP T[t].L p d) = true := decide_eq_true hs
                have HSm : Hid (S'.pick (codes T) t = S') := HAb.out.same htc HPp.out (by rw [HcL.out, HDd.out]; exact hs)
                rw [hsd]
                clear hs hsd
                go_wp2_with fail
                go_roundw
                case rel => exact ⟨j + 1, by omega, by go_num, S', Ps, R, D, c', k, HNx.out.trans HSm.out, HR5.out, HAb.out, HK'.out, by have := HKS.out; omega⟩
                case measure => simp [intOf]; omega
              · have hsd : decide (T[t].L.length ≤ absP T[t].L p d) = false := decide_eq_false hs
                have hdf : d = false := by
                  cases d with
                  | false => rfl
                  | true => exact absurd (show T[t].L.length ≤ absP T[t].L p true from Nat.le_refl _) hs
                subst hdf
                obtain ⟨-, -, -, -, -, x5⟩ := HR5.out.tops
                have hlR : t < R.length := by rw [HRf.out.lr]; exact htT
                have hfz : (wr.drewN q5).frozen? ⟨mb, 5, none⟩ = false := frozen_of HR5.out.top _
                have HG6 : Hid (RefG w ((wr.drewN q5).setCell ⟨mb, 5, none⟩ (.int .i64 ((k : Int) + 1))) mb pb rb db (.slice at_ T.length ct) vq T.length c.length Ps R D c' (k + 1)) := HR5.out.setSteps (k + 1)
                have HIn : Hid (InS T[t].L c.length ⟨R.getD t [], p, c'⟩ 0 false false (R.getD t []) p c') := by
                  refine InS.start ?_
                  have hm : t < S'.ms.length := by rw [HK'.out.len]; exact htc
                  have h1 := HK'.out.each t hm
                  rw [HcL.out] at h1
                  have e1 : R.getD t [] = S'.ms[t].r := by rw [HAb.out.r, getD_get (by simpa using hm)]; simp
                  have e2 : S'.ms[t].p = p := by have := HPl.out.2; rw [getD_get hm] at this; exact this
                  rw [e1, HAb.out.c, ← e2]
                  exact h1
                have HOt : Hid (TaskOk T[t].L c.length) := HO.out.all _ (by simp [codes]; exact ⟨T[t], List.getElem_mem htT, rfl⟩)
                have HEnd : Hid (∀ (kk : Nat) (acc d' : Bool) (r : List Int) (p' : Nat) (c2 : List Int), InS T[t].L c.length ⟨R.getD t [], p, c'⟩ kk acc d' r p' c2 → (64 ≤ kk ∨ acc = true ∨ T[t].L.length ≤ absP T[t].L p' d') → Abs (codes T) (S'.pick (codes T) t) (Ps.set t (p' : Int)) (R.set t r) (D.set t d') c2 (k + 1)) := by
                  intro kk acc d' r p' c2 h1 h2
                  refine HAb.out.pick HK'.out htc HPp.out (by rw [HcL.out, HDd.out]; exact hs) HDd.out (by rw [HcL.out]; exact h1.pl) ?_
                  rw [HcL.out]
                  exact h1.stop h2
                rw [hsd]
                clear hs hsd
                go_wp2_with fail
                generalize (wr.drewN q5).setCell ⟨mb, 5, none⟩ (.int .i64 ((k : Int) + 1)) = w6 at HG6 ⊢
                clear x5 hfz HR5 p0
                go_loopw [15, 16] (fun a i wr => ∃ (kk : Nat) (acc d' : Bool) (r : List Int) (p' : Nat) (c2 : List Int), kk ≤ 64 ∧ i = .int .i64 kk ∧ a = .bool acc ∧ RefG w wr mb pb rb db (.slice at_ T.length ct) vq T.length c.length (Ps.set t (p' : Int)) (R.set t r) (D.set t d') c2 (k + 1) ∧ InS T[t].L c.length ⟨R.getD t [], p, c'⟩ kk acc d' r p' c2) (fun _ i _ => 64 - (intOf i).toNat)
                case atStart =>
                  refine ⟨0, false, false, R.getD t [], p, c', Nat.zero_le _, rfl, rfl, ?_, HIn.out⟩
                  have e1 : Ps.set t (p : Int) = Ps := by rw [← HPp.out]; exact set_getD_self (by rw [HRf.out.lp]; exact htT) 0
                  have e2 : D.set t false = D := by
                    have := set_getD_self (l := D) (i := t) (by rw [HRf.out.ld]; exact htT) false
                    rw [HDd.out] at this
                    exact this
                  rw [e1, set_getD_self hlR, e2]
                  exact HG6.out
                case round =>
                  obtain ⟨kk, acc, d', r, p', c2, hkk, rfl, rfl, hrf, hin⟩ := hrel
                  have HF : Hid (RefG w wr mb pb rb db (.slice at_ T.length ct) vq T.length c.length (Ps.set t (p' : Int)) (R.set t r) (D.set t d') c2 (k + 1)) := hrf
                  have HI : Hid (InS T[t].L c.length ⟨R.getD t [], p, c'⟩ kk acc d' r p' c2) := hin
                  clear hrf hin HG6 HIn
                  by_cases h64 : kk < 64
                  · have h64I : (kk : Int) < 64 := by omega
                    cases acc with
                    | true =>
                      go_wp2_with fail
                      go_roundw
                      case rel => exact ⟨j + 1, by omega, by go_num, S'.pick (codes T) t, _, _, _, _, _, HNx.out, HF.out, HEnd.out kk true d' r p' c2 HI.out (Or.inr (Or.inl rfl)), HK2.out, HKS2.out⟩
                      case measure => simp [intOf]; omega
                    | false =>
                      have HP' : Hid ((Ps.set t (p' : Int)).getD t 0 = (p' : Int)) := by
                        show _ = _
                        rw [getD_get (by rw [HF.out.lp]; exact htT)]
                        simp
                      have HD' : Hid ((D.set t d').getD t false = d') := by
                        show _ = _
                        rw [getD_get (by rw [HF.out.ld]; exact htT)]
                        simp
                      have HR' : Hid ((R.set t r).getD t [] = r) := by
                        show _ = _
                        rw [getD_get (by rw [HF.out.lr]; exact htT)]
                        simp
                      go_wp2_with fail
                      refine (rstopped_any HF.out HTa.out htT htl HP'.out HD'.out).mono ?_
                      rintro e w7 ⟨rfl, q7, rfl⟩
                      have HF7 : Hid (RefG w (wr.drewN q7) mb pb rb db (.slice at_ T.length ct) vq T.length c.length (Ps.set t (p' : Int)) (R.set t r) (D.set t d') c2 (k + 1)) := HF.out.stay (below_drewN wr q7)
                      rw [absP_stopped]
                      by_cases hs : T[t].L.length ≤ absP T[t].L p' d'
                      · have hsd : decide (T[t].L.length ≤ absP T[t].L p' d') = true := decide_eq_true hs
                        have HA2 : Hid (Abs (codes T) (S'.pick (codes T) t) (Ps.set t (p' : Int)) (R.set t r) (D.set t d') c2 (k + 1)) := HEnd.out kk false d' r p' c2 HI.out (Or.inr (Or.inr hs))
                        rw [hsd]
                        clear hs hsd
                        go_wp2_with fail
                        go_roundw
                        case rel => exact ⟨j + 1, by omega, by go_num, S'.pick (codes T) t, _, _, _, _, _, HNx.out, HF7.out, HA2.out, HK2.out, HKS2.out⟩
                        case measure => simp [intOf]; omega
                      · have hsd : decide (T[t].L.length ≤ absP T[t].L p' d') = false := decide_eq_false hs
                        have hdf : d' = false := by
                          cases d' with
                          | false => rfl
                          | true => exact absurd (show T[t].L.length ≤ absP T[t].L p' true from Nat.le_refl _) hs
                        subst hdf
                        have hpl2 : p' < T[t].L.length := by have h := hs; show p' < _; exact Nat.lt_of_not_le h
                        obtain ⟨x, hx⟩ : ∃ x, T[t].L[p']? = some x := ⟨_, List.getElem?_eq_getElem hpl2⟩
                        obtain ⟨p2, hp2, hin2⟩ := HI.out.next HOt.out h64 hx
                        have HI2 : Hid (InS T[t].L c.length ⟨R.getD t [], p, c'⟩ (kk + 1) (doA x ⟨r, p', c2⟩ T[t].L.length) (decide (x.kind = 8)) (St.one T[t].L.length ⟨r, p', c2⟩ x).1.r p2 (St.one T[t].L.length ⟨r, p', c2⟩ x).1.c) := hin2
                        have HDo : Hid (Calls Try.prog 29 #[.pointer (some ⟨mb, 0, none⟩), .int .i64 (t : Int)] (wr.drewN q7) fun e w' => e = .returned (.bool (doA x ⟨r, p', c2⟩ T[t].L.length)) ∧ RefG w w' mb pb rb db (.slice at_ T.length ct) vq T.length c.length (Ps.set t (p2 : Int)) (R.set t (St.one T[t].L.length ⟨r, p', c2⟩ x).1.r) (D.set t (decide (x.kind = 8))) (St.one T[t].L.length ⟨r, p', c2⟩ x).1.c (k + 1)) := by
                          have h9 := do_any HF7.out HTa.out htT HP'.out hx HOt.out (by rw [HR'.out]; exact HI.out.r8)
                          rw [HR'.out, hp2, List.set_set, List.set_set] at h9
                          have e8 : doD x (D.set t false) t = D.set t (decide (x.kind = 8)) := by
                            unfold doD
                            by_cases h8 : x.kind = 8
                            · rw [if_pos h8, List.set_set, decide_eq_true h8]
                            · rw [if_neg h8, decide_eq_false h8]
                          rw [e8] at h9
                          exact h9
                        rw [hsd]
                        clear hs hsd hin2 hp2 hx
                        go_wp2_with fail
                        refine HDo.out.mono ?_
                        rintro e w8 ⟨rfl, hf8⟩
                        have HF8 : Hid (RefG w w8 mb pb rb db (.slice at_ T.length ct) vq T.length c.length (Ps.set t (p2 : Int)) (R.set t (St.one T[t].L.length ⟨r, p', c2⟩ x).1.r) (D.set t (decide (x.kind = 8))) (St.one T[t].L.length ⟨r, p', c2⟩ x).1.c (k + 1)) := hf8
                        clear hf8 HDo
                        go_wp2_with fail
                        go_roundw
                        case rel => exact ⟨kk + 1, _, _, _, _, _, by omega, by go_num, rfl, HF8.out, HI2.out⟩
                        case measure => simp [intOf]; omega
                  · have h64I : ¬ (kk : Int) < 64 := by omega
                    go_wp2_with fail
                    go_roundw
                    case rel => exact ⟨j + 1, by omega, by go_num, S'.pick (codes T) t, _, _, _, _, _, HNx.out, HF.out, HEnd.out kk acc d' r p' c2 HI.out (Or.inl (by omega)), HK2.out, HKS2.out⟩
                    case measure => simp [intOf]; omega
            · have hgI : ¬ (j : Int) < (ps.length : Int) := by omega
              have ej : j = ps.length := by omega
              subst ej
              have eS : S' = S := by
                have := HU'.out
                rw [List.take_length, HSR.out] at this
                exact this.symm
              subst eS
              have HDl : Hid ((donesOf (codes T) S'.ms).length = T.length) := by
                show _ = _
                have := HK'.out.len
                rw [codes_length] at this
                simp [donesOf, codes_length, this]
              go_wp2_with fail
              go_loopw [17] (fun i wr => ∃ q : Nat, q ≤ T.length ∧ i = .int .i64 q ∧ ∃ D', RefG w wr mb pb rb db (.slice at_ T.length ct) vq T.length c.length Ps R D' c' k ∧ (∀ i, i < q → D'.getD i false = (donesOf (codes T) S'.ms).getD i false) ∧ ∀ i, q ≤ i → D'.getD i false = D.getD i false) (fun i _ => T.length - (intOf i).toNat)
              case atStart => exact ⟨0, Nat.zero_le _, rfl, D, HRf.out, fun i hi => absurd hi (Nat.not_lt_zero _), fun _ _ => rfl⟩
              case round =>
                obtain ⟨q, hq, rfl, D', hrf, hd1, hd2⟩ := hrel
                have HF : Hid (RefG w wr mb pb rb db (.slice at_ T.length ct) vq T.length c.length Ps R D' c' k) := hrf
                have HD1 : Hid ((∀ i, i < q → D'.getD i false = (donesOf (codes T) S'.ms).getD i false) ∧ ∀ i, q ≤ i → D'.getD i false = D.getD i false) := ⟨hd1, hd2⟩
                clear hrf hd1 hd2
                by_cases hlt : q < T.length
                · have hlI : (q : Int) < (T.length : Int) := by omega
                  obtain ⟨tb, to, ct', ta, tc, hTa⟩ := HTw.out.task hlt
                  have htc : q < (codes T).length := by rw [codes_length]; exact hlt
                  have HcL : Hid ((codes T).getD q [] = T[q].L) := by show _ = _; rw [getD_get htc]; simp [codes]
                  obtain ⟨p, hp, -, hpa⟩ := HAb.out.each q htc
                  have HB : Hid ((D'.getD q false || decide (T[q].L.length ≤ p)) = (donesOf (codes T) S'.ms).getD q false) := by
                    show _ = _
                    rw [HD1.out.2 q (Nat.le_refl _), absP_stopped]
                    rw [HcL.out] at hpa
                    have hm : q < S'.ms.length := by rw [HK'.out.len]; exact htc
                    have e9 : (donesOf (codes T) S'.ms).getD q false = (donesOf (codes T) S'.ms)[q]'(by rw [HDl.out]; exact hlt) := getD_get _ _
                    rw [e9]
                    unfold donesOf
                    rw [List.getElem_zipWith]
                    unfold doneOf
                    have e1 : (codes T)[q] = T[q].L := by simp [codes]
                    rw [getD_get hm] at hpa
                    rw [e1, hpa]
                  obtain ⟨bq, hbq⟩ : ∃ b, (donesOf (codes T) S'.ms).getD q false = b := ⟨_, rfl⟩
                  have HBq : Hid ((donesOf (codes T) S'.ms).getD q false = bq) := hbq
                  have HC : Hid (∀ W, RefG w W mb pb rb db (.slice at_ T.length ct) vq T.length c.length Ps R D' c' k → Calls Try.prog 28 #[.pointer (some ⟨mb, 0, none⟩), .int .i64 (q : Int)] W fun e w' => e = .returned (.bool bq) ∧ RefG w w' mb pb rb db (.slice at_ T.length ct) vq T.length c.length Ps R D' c' k ∧ w'.cell? ⟨mb, 4, none⟩ = some (.slice (some ⟨db, 0, none⟩) T.length T.length) ∧ w'.cell? ⟨db, q, none⟩ = some (.bool (D'.getD q false)) ∧ w'.frozen? ⟨db, q, none⟩ = false) := by
                    intro W hW
                    have h9 := rstopped_any hW hTa hlt htl hp (d := D'.getD q false) rfl
                    rw [HB.out, HBq.out] at h9
                    refine h9.mono ?_
                    rintro e w' ⟨rfl, q9, rfl⟩
                    have h10 := hW.stay (below_drewN W q9)
                    exact ⟨rfl, h10, h10.tops.2.2.2.2.1, (h10.done hlt).1, (h10.done hlt).2⟩
                  have x4 := HF.out.tops.2.2.2.2.1
                  have ne1 : db ≠ mb := by
                    obtain ⟨cu, e1, _⟩ := HF.out.dl
                    exact other_type HF.out.top e1 (by decide)
                  have ne2 : mb ≠ db := Ne.symm ne1
                  clear hTa hp hpa hbq
                  go_wp2_with fail
                  go_region_held3 (fun w' => w'.cell? ⟨mb, 4, none⟩ = some (.slice (some ⟨db, 0, none⟩) T.length T.length)) (go_keep)
                    (first
                      | (go_at_call 28; refine (HC.out _ (HF.out.stay (below_drewN wr 1))).mono ?_; rintro e w9 ⟨rfl, hf9, z4, z5, z6⟩))
                  have HN9 : Hid (∃ D2, RefG w (w9.setCell ⟨db, q, none⟩ (.bool bq)) mb pb rb db (.slice at_ T.length ct) vq T.length c.length Ps R D2 c' k ∧ (∀ i, i < q + 1 → D2.getD i false = (donesOf (codes T) S'.ms).getD i false) ∧ ∀ i, q + 1 ≤ i → D2.getD i false = D.getD i false) := by
                    refine ⟨D'.set q bq, hf9.setDone hlt bq, fun i hi => ?_, fun i hi => ?_⟩
                    · by_cases e : i = q
                      · subst e
                        rw [HBq.out, getD_get (by simp [hf9.ld]; exact hlt)]
                        simp
                      · rw [List.getD_eq_getElem?_getD, List.getElem?_set_ne (Ne.symm e), ← List.getD_eq_getElem?_getD]
                        exact HD1.out.1 i (by omega)
                    · rw [List.getD_eq_getElem?_getD, List.getElem?_set_ne (by omega), ← List.getD_eq_getElem?_getD]
                      exact HD1.out.2 i (by omega)
                  clear hf9 z4 z5 z6 HC
                  go_wp2_with fail
                  go_roundw
                  case rel => exact ⟨q + 1, by omega, by go_num, HN9.out⟩
                  case measure => simp [intOf]; omega
                · have hgI2 : ¬ (q : Int) < (T.length : Int) := by omega
                  have eq' : q = T.length := by omega
                  have hDD : D' = donesOf (codes T) S'.ms := by
                    apply List.ext_getElem
                    · rw [HF.out.ld, HDl.out]
                    · intro i h1 h2
                      have := HD1.out.1 i (by rw [HF.out.ld] at h1; omega)
                      rw [getD_get h1, getD_get h2] at this
                      exact this
                  have HF2 : Hid (RefG w wr mb pb rb db (.slice at_ T.length ct) vq T.length c.length Ps (S'.ms.map Mc.r) (donesOf (codes T) S'.ms) S'.c S'.steps) := by
                    have := HF.out
                    rw [hDD, HAb.out.r, HAb.out.c, HAb.out.k] at this
                    exact this
                  have hkS : k = S'.steps := HAb.out.k
                  obtain ⟨aq, cq, hvq, -, -, -⟩ := own_slice (en := fun x : Int => [Value.int .u64 x]) (n := 1) (L := S'.c) (fun _ => rfl) (by rw [← ucells_flat, HF2.out.lc]; exact HF2.out.cl)
                  have hlc' := HF2.out.lc
                  rw [hlc'] at hvq
                  subst hvq
                  subst hkS
                  obtain ⟨-, -, t2, t3, t4, t5⟩ := HF2.out.tops
                  obtain ⟨y0', y1', y2', y3', z⟩ := res_cells HF2.out.res
                  clear HF HD1 hDD hlc' HRf HAb
                  go_wp2_with fail
                  have hS := res_set HF2.out.res (.slice aq c.length cq) (.slice (some ⟨rb, 0, none⟩) T.length T.length) (.slice (some ⟨db, 0, none⟩) T.length T.length) (.int .i64 (S'.steps : Int)) _ rfl
                  generalize (((wr.setCell ⟨w.heap.size, 0, none⟩ (.slice aq c.length cq)).setCell ⟨w.heap.size, 1, none⟩ (.slice (some ⟨rb, 0, none⟩) T.length T.length)).setCell ⟨w.heap.size, 2, none⟩ (.slice (some ⟨db, 0, none⟩) T.length T.length)).setCell ⟨w.heap.size, 3, none⟩ (.int .i64 (S'.steps : Int)) = W at hS ⊢
                  obtain ⟨c0, c1, c2, c3, htn⟩ := hS
                  try simp only [Exit.inBlock, Exit.then]
                  refine bodyPost_ret (by simp [results, Try.results14, go_sem, c0, c1, c2, c3]; rfl) rfl ?_
                  obtain ⟨u2, r1, r2⟩ := HF2.out.rl
                  obtain ⟨u3, d1, d2⟩ := HF2.out.dl
                  refine ⟨_, _, _, rfl, fun W2 _ hag => ⟨?_, ?_, ?_⟩, ?_⟩
                  · have h1 : W2.ownsRow w.heap.size 38 1 (.slice aq c.length cq) c.length (ucells S'.c) := ownsRow_block HF2.out.cl (fun g hg => by
                      obtain ⟨cu, e1, hge⟩ := ownsRow_own HF2.out.cl hg
                      exact (hag g hge (Nat.lt_of_lt_of_le (lt_of e1) htn.size)).trans (htn.block g (lt_of e1) (other_type HF2.out.res e1 (by decide))))
                    have h2 := own_slice (en := fun x : Int => [Value.int .u64 x]) (n := 1) (L := S'.c) (fun _ => rfl) (by rw [← ucells_flat, HF2.out.lc]; exact h1)
                    exact h2
                  · have h0 := (htn.block rb (lt_of r1) (other_type HF2.out.res r1 (by decide))).trans r1
                    have h1 := (hag rb HF2.out.new.2.2.1 (lt_of h0)).trans h0
                    have h2 := sliceAt_flat (en := r8) (n := 8) (cap := T.length) (L := S'.ms.map Mc.r) r8_len h1 (by rw [r2, Nat.mul_comm, ← flat_length r8_len, List.take_length]) (by rw [HF2.out.lr]; exact Nat.le_refl _) (by unfold maxLen; omega)
                    rw [HF2.out.lr] at h2
                    exact h2
                  · have h0 := (htn.block db (lt_of d1) (other_type HF2.out.res d1 (by decide))).trans d1
                    have h1 := (hag db HF2.out.new.2.2.2 (lt_of h0)).trans h0
                    have h2 := sliceAt_flat (en := bcell) (n := 1) (cap := T.length) (L := donesOf (codes T) S'.ms) (fun _ => rfl) h1 (by rw [d2, Nat.mul_comm, ← flat_length (en := bcell) (m := 1) (fun _ => rfl), List.take_length]) (by rw [HF2.out.ld]; exact Nat.le_refl _) (by unfold maxLen; omega)
                    rw [HF2.out.ld] at h2
                    exact h2
                  · exact HF2.out.below.trans ((htn.mono (fun i e => by rw [e]; exact Nat.le_refl _)).toBelow HF2.out.below.size)
      have hm1 := fun u : World => make_any Try.underlying31 infoA u T.length (by omega) (by omega)
      have hm2 := fun u : World => make_any Try.underlying32 infoB u T.length (by omega) (by omega)
      have hzz1 := made_flat (en := r8) r8_len (by omega) (d := zero8) (z := (Value.agg #[.int .u64 0, .int .u64 0, .int .u64 0, .int .u64 0, .int .u64 0, .int .u64 0, .int .u64 0, .int .u64 0]).cells) rfl T.length
      have hzz2 := made_flat (en := bcell) (m := 1) (fun _ => rfl) (by omega) (d := false) (z := (Value.bool false).cells) rfl T.length
      generalize madeCells (Value.agg #[.int .u64 0, .int .u64 0, .int .u64 0, .int .u64 0, .int .u64 0, .int .u64 0, .int .u64 0, .int .u64 0]).cells (T.length * 8) = Z1 at hm1 hzz1
      generalize madeCells (Value.bool false).cells (T.length * 1) = Z2 at hm2 hzz2
      have HZp : Hid (Zp.toList = flat ei' (List.replicate T.length 0)) := hzp
      clear hzp
      have HZ : Hid (Z1.toList = flat r8 (List.replicate T.length zero8) ∧ Z2.toList = flat bcell (List.replicate T.length false)) := ⟨hzz1, hzz2⟩
      clear hzz1 hzz2 hmk
      obtain ⟨iu, ui, uz0, uz1, uz2⟩ := info_parts infoU
      obtain ⟨W0, hW0⟩ : ∃ W0, (wr.alloc (.cells Zp 3)).alloc (.cells #[.slice at_ T.length ct, .slice (some ⟨wr.heap.size, 0, none⟩) T.length T.length, .slice none 0 0, .slice none 0 0, .slice none 0 0, .int .i64 0] 64) = W0 := ⟨_, rfl⟩
      have h0s : W0.heap.size = mb + 1 := by rw [← hW0]; simp; omega
      have HB0 : Hid (Below w.heap.size w W0) := by
        show Below _ _ _
        rw [← hW0]
        exact (HB1.out.alloc HB1.out.size _).alloc (by simp; have := HB1.out.size; omega) _
      have HM0 : Hid (W0.heap[mb]? = some (.cells #[.slice at_ T.length ct, .slice (some ⟨wr.heap.size, 0, none⟩) T.length T.length, .slice none 0 0, .slice none 0 0, .slice none 0 0, .int .i64 0] 64 (0, 0))) := by
        show W0.heap[_]? = _
        have := heap_new (wr.alloc (.cells Zp 3)) (.cells #[.slice at_ T.length ct, .slice (some ⟨wr.heap.size, 0, none⟩) T.length T.length, .slice none 0 0, .slice none 0 0, .slice none 0 0, .int .i64 0] 64)
        rw [World.size_alloc, hmb] at this
        rw [← hW0]
        exact this
      have HPb : Hid (W0.heap[wr.heap.size]? = some (.cells Zp 3 (0, 0))) := by
        show W0.heap[_]? = _
        rw [← hW0, heap_alloc, if_neg (by simp), heap_new]
      have HRes : Hid (W0.heap[w.heap.size]? = some repZ) := by
        show W0.heap[_]? = _
        have h1 := lt_of HR1.out
        rw [← hW0, heap_alloc, if_neg (by simp; omega), heap_alloc, if_neg (by omega)]
        exact HR1.out
      have hm1' : w.heap.size ≤ wr.heap.size := HB1.out.size
      have hm0 : w.heap.size ≤ mb := by omega
      have a2 : W0.cell? ⟨mb, 2, none⟩ = some (.slice none 0 0) := by rw [cell_of HM0.out]; rfl
      have a3 : W0.cell? ⟨mb, 3, none⟩ = some (.slice none 0 0) := by rw [cell_of HM0.out]; rfl
      have a4 : W0.cell? ⟨mb, 4, none⟩ = some (.slice none 0 0) := by rw [cell_of HM0.out]; rfl
      have a5 : W0.cell? ⟨mb, 5, none⟩ = some (.int .i64 0) := by rw [cell_of HM0.out]; rfl
      have f2 : W0.frozen? ⟨mb, 2, none⟩ = false := frozen_of HM0.out _
      have f3 : W0.frozen? ⟨mb, 3, none⟩ = false := frozen_of HM0.out _
      have f4 : W0.frozen? ⟨mb, 4, none⟩ = false := frozen_of HM0.out _
      have f5 : W0.frozen? ⟨mb, 5, none⟩ = false := frozen_of HM0.out _
      have hbase : w.heap.size ≤ W0.heap.size := HB0.out.size
      have HAp : Hid (∀ W g, Below W0.heap.size W0 W → W.heap[g]? = some (.cells #[] 38 (0, 0)) → W0.heap.size ≤ g → W.ownsRow w.heap.size 38 1 (.slice (some ⟨g, 0, none⟩) 0 0) 0 [] ∧ WordsAt W (.slice ac c.length cc) c ∧ w.heap.size ≤ W.heap.size) := by
        intro W g hb hg hl
        refine ⟨own_empty hg (Nat.le_trans hbase hl), HCw.out.below (HB0.out.trans (hb.mono HB0.out.size)), Nat.le_trans hbase hb.size⟩
      have HCc : Hid (∀ W, Below W0.heap.size W0 W → WordsAt W (.slice ac c.length cc) c) := fun W hb => HCw.out.below (HB0.out.trans (hb.mono HB0.out.size))
      rw [hmb, hW0]
      clear hK HSR HWs HPR HXP HO HTw HCw HPw
      have HSF : Hid (∀ W, Below W0.heap.size W0 W → (W.cell? ⟨mb, 2, none⟩ = some (.slice none 0 0) ∧ W.cell? ⟨mb, 3, none⟩ = some (.slice none 0 0) ∧ W.cell? ⟨mb, 4, none⟩ = some (.slice none 0 0) ∧ W.cell? ⟨mb, 5, none⟩ = some (.int .i64 0)) ∧ W.frozen? ⟨mb, 2, none⟩ = false ∧ W.frozen? ⟨mb, 3, none⟩ = false ∧ W.frozen? ⟨mb, 4, none⟩ = false ∧ W.frozen? ⟨mb, 5, none⟩ = false) := by
        intro W hW
        have h1 := (hW.block mb (lt_of HM0.out)).trans HM0.out
        exact ⟨⟨by rw [cell_of h1]; rfl, by rw [cell_of h1]; rfl, by rw [cell_of h1]; rfl, by rw [cell_of h1]; rfl⟩, frozen_of h1 _, frozen_of h1 _, frozen_of h1 _, frozen_of h1 _⟩
      go_region_law (refine step_append_copy (by rfl) _ _ 23 (by rfl) w.heap.size 38 iu (.int .u64 0) 1 8 Try.underlying23 ui uz0 uz1 uz2 rfl (by decide) _ (by rfl) (HAp.out _ _ (by go_grown) (by simp only [drew_heap, heap_alloc, World.size_alloc, h0s]; split <;> first | rfl | omega | exact absurd trivial ‹¬True› | (split <;> first | rfl | omega | exact absurd trivial ‹¬True› | (split <;> first | rfl | omega | exact absurd trivial ‹¬True›))) (by first | omega | (simp [h0s]; done) | (simp [h0s]; omega))).1 (fun x : Int => [Value.int .u64 x]) (fun _ => rfl) (fun y u hu => by rw [List.mem_singleton.1 hu]; rfl) _ c (by rfl) (HCc.out _ (by go_grown)) HNc.out (by omega) (by first | omega | (simp; omega)) ?_; intro b5 k5 w5 hown5 hgrow5; have hb5 : Below W0.heap.size W0 w5 := Below.grown (by go_grown) hgrow5 (by first | omega | (simp [h0s]; done) | (simp [h0s]; omega)) (fun i hi => by cases hi; first | omega | (simp [h0s]; done) | (simp [h0s]; omega)); have hs5 : mb < w5.heap.size := (by have := hb5.size; omega); obtain ⟨⟨g2, g3, g4, g5⟩, g6, g7, g8, g9⟩ := HSF.out w5 hb5)
      all_goals exact key.out _ wr.heap.size _ _ _ _ _ _ _ _ _ _ _ _ _ _ _ _ _ _ _ _ _ _ _ _ _ _ _ _ _ _ _ _ _ _ _ _ _ _ _ _ _ _ _ _ _ _ _ _ _ _ _ _ _ _ _ _ _ _ _ _ _ _ _ _ _ _ _ _ _ _ _ _ _ _ _ _ _ _ _ _ _ _ _ _ _ _ _ _ _ _ _ _ _ _ _ _ _ _ _ _ _ _ _ _ _ _ _ _ _ _ _ _ _ _ _ _ _ _ _ _ _ _ _ _ _ _ _ _ _ _ _ _ (RefG.make3 (W0 := W0) HM0.out HPb.out HZp.out HRes.out HB0.out hm0 hm1' HZ.out.1 HZ.out.2 rfl hb5 hown5 (by first | exact Below.refl _ _ | exact Below.alloc (Below.refl _ _) (by simp) _ | exact Below.alloc (Below.alloc (Below.refl _ _) (by simp) _) (by simp) _) (by first | exact Or.inr ⟨by omega, by (simp only [heap_alloc, World.size_alloc, World.size_setCell]; split <;> first | rfl | omega | exact absurd trivial ‹¬True› | (split <;> first | rfl | omega | exact absurd trivial ‹¬True› | (split <;> first | rfl | omega | exact absurd trivial ‹¬True›)))⟩ | exact Or.inl ((hgrow5.block _ (by first | omega | (simp [h0s]; done) | (simp [h0s]; omega)) (by first | (simp; done) | (simp; omega))).trans (by (simp only [drew_heap, heap_alloc, World.size_alloc, h0s]; split <;> first | rfl | omega | exact absurd trivial ‹¬True› | (split <;> first | rfl | omega | exact absurd trivial ‹¬True› | (split <;> first | rfl | omega | exact absurd trivial ‹¬True›)))))) (by first | exact Or.inr ⟨by omega, by (simp only [heap_alloc, World.size_alloc, World.size_setCell]; split <;> first | rfl | omega | exact absurd trivial ‹¬True› | (split <;> first | rfl | omega | exact absurd trivial ‹¬True› | (split <;> first | rfl | omega | exact absurd trivial ‹¬True›)))⟩ | exact Or.inl ((hgrow5.block _ (by first | omega | (simp [h0s]; done) | (simp [h0s]; omega)) (by first | (simp; done) | (simp; omega))).trans (by (simp only [drew_heap, heap_alloc, World.size_alloc, h0s]; split <;> first | rfl | omega | exact absurd trivial ‹¬True› | (split <;> first | rfl | omega | exact absurd trivial ‹¬True› | (split <;> first | rfl | omega | exact absurd trivial ‹¬True›)))))) (by omega) (by omega))
end

end Go.Proofs.Ytibgpjokdpagcaa
