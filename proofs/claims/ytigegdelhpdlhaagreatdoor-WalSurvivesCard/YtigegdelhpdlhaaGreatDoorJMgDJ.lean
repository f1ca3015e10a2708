import Derived.Test.YtigegdelhpdlhaaGreatDoorJMgAJ
/- Layer 18: one entry is put among sorted others: the other short way of the library's symMerge. (By jsym.py.) -/
namespace Go.Proofs.YtigegdelhpdlhaaGreatDoor
open Go.RowKit QP Go.Sort Go.Shelf Go.Lib

set_option maxRecDepth 1000000 in
set_option maxHeartbeats 8000000 in
theorem jsym_back {P : Program} {k : Nat} (Q : PJ P k) (U : PU P) (FG : P.funcs[126]? = some Tryz.f126) (enc : Er → List Value) (gf : Nat) (eg : ∀ args w, (callFunc gf args).run P w = .ok (.enter gf args) w) (w0 : World) (blk cap : Nat) (L0 : List Er) (R : Go.Proofs.RowK enc k w0 blk 0 L0.toArray) (hC : CmpLays P gf #[] enc k cfE blk 0 L0.length w0) (a m b : Nat) (L : List Er) (W : World) (hs : L.length = L0.length) (hab : a < m ∧ m < b) (hb : b ≤ L.length) (hL : L.length ≤ 1000) (s1 : SortR L a m) (S : SWK enc k w0 blk 0 L.toArray W) (h1 : ¬ m - a = 1) (h2 : b - m = 1) :
    Calls P 126 #[.slice (some ⟨blk, 0, none⟩) L.length cap, .int .i64 (a : Int), .int .i64 (m : Int), .int .i64 (b : Int), .func (.func gf) #[] #[]] W fun e w' => e = .returned (.tuple #[]) ∧ ∃ L', Mv a b L L' ∧ SortR L' a b ∧ SWK enc k w0 blk 0 L'.toArray w' := by
  have mixed := Q.mixed; have t3 := Q.t3; have a3 := Q.a3; have z3 := Q.z3; have v3 := Q.v3; have t38 := Q.t38; have a38 := Q.a38; have z38 := Q.z38; have v38 := Q.v38; have aE := Q.aE; have zE := Q.zE
  have t172 := U.t172; have a172 := U.a172; have z172 := U.z172; have v172 := U.v172; have t4 := U.t4; have a4 := U.a4; have z4 := U.z4
  have u38 := run_underlying Q.t38
  have HC : Hid (CmpLays P gf #[] enc k cfE blk 0 L0.length w0) := hC
  obtain ⟨N, hN⟩ : ∃ N, L.length = N := ⟨_, rfl⟩
  have HLn : Hid (L.length = N) := hN
  have HLs : Hid (L.length = L0.length) := hs
  have HS0 : Hid (SWK enc k w0 blk 0 L.toArray W) := S
  rw [hN] at hb hL ⊢
  clear S hN hs hC
  obtain ⟨z, hz, w0c⟩ : ∃ z : Int, IntKind.i64.wrap ((m : Int) - (a : Int)) = z ∧ ¬ z = 1 := ⟨_, rfl, by rw [IntKind.wrap_i64]; omega⟩
  have w0d : (z == 1) = false := by rw [beq_eq_false_iff_ne]; exact w0c
  have w0b : IntKind.i64.wrap ((b : Int) - (m : Int)) = 1 := by rw [IntKind.wrap_i64]; omega
  have H0 : Hid (SortR L a m) := s1
  clear s1
  go_enter FG, Tryz.ntmps126
  go_wp2_with fail
  go_loopw [14, 15] (fun vi vj wr => ∃ i j : Nat, vi = .int .i64 i ∧ vj = .int .i64 j ∧ a ≤ i ∧ i ≤ j ∧ j ≤ m ∧ Hid (∀ x, a ≤ x → x < i → (gE L x).T ≤ (gE L m).T) ∧ Hid (∀ x, j ≤ x → x < m → (gE L m).T < (gE L x).T) ∧ Hid (SWK enc k w0 blk 0 L.toArray wr)) (fun vi vj _ => (intOf vj).toNat - (intOf vi).toNat)
  case atStart => exact ⟨a, m, rfl, rfl, Nat.le_refl _, by omega, Nat.le_refl _, (fun x h1 h2 => by omega), (fun x h1 h2 => by omega), HS0⟩
  case round =>
    clear HS0 hz w0b w0c w0d
    obtain ⟨i, j, rfl, rfl, hmi, hij, hjb, Hlo, Hhi, HS⟩ := hrel
    by_cases hlt : i < j
    · have hltz : (i : Int) < (j : Int) := by omega
      obtain ⟨h, hh⟩ : ∃ h, (i + j) / 2 = h := ⟨_, rfl⟩
      have w1h : IntKind.i64.wrap ((i : Int) + (j : Int)) = (i : Int) + (j : Int) := by rw [IntKind.wrap_i64]; omega
      have w2h : IntKind.u64.wrap ((i : Int) + (j : Int)) = ((i + j : Nat) : Int) := by rw [wrap_u64j]; omega
      have w3h : ((i : Int) + (j : Int)) / 2 = (h : Int) := by omega
      have w4h : IntKind.i64.wrap (h : Int) = (h : Int) := by rw [IntKind.wrap_i64]; omega
      have hbd : (h : Int) < (N : Int) ∧ (m : Int) < (N : Int) := by omega
      obtain ⟨bh, ba⟩ := hbd
      have HV : Hid (cfE (gE L m) (gE L h) < 0 ↔ (gE L m).T < (gE L h).T) := cfE_neg _ _
      by_cases hv : cfE (gE L m) (gE L h) < 0
      · have Hhi2 : Hid (∀ x, h ≤ x → x < m → (gE L m).T < (gE L x).T) := fun x q1 q2 => by
          have h3 := HV.out.1 hv
          have h4 := H0.out h x (by omega) q1 q2
          omega
        clear HV
        have la := swJ_ld HS.out R HLs.out P m (by rw [HLn.out]; omega)
        have lb := swJ_ld HS.out R HLs.out P h (by rw [HLn.out]; omega)
        have hcm := swJ_cmp HS.out HC.out HLs.out (gE L m) (gE L h)
        have na := R.hk (gE L m)
        have nb := R.hk (gE L h)
        generalize enc (gE L m) = cI at la hcm na
        generalize enc (gE L h) = cJ at lb hcm nb
        generalize cfE (gE L m) (gE L h) = cv at hcm hv
        have hvd : decide (cv < 0) = true := decide_eq_true hv
        go_wp2_with fail
        go_quiet_grown (first | (go_at_fn gf; refine Calls.grown_of (hcm _ _)))
        have S2 : Hid (SWK enc k w0 blk 0 L.toArray (grow (wr.drewN nq) osq)) := HS.out.grown nq osq
        clear la lb hcm HS
        generalize grow (wr.drewN nq) osq = w2 at S2 ⊢
        go_wp2_with fail
        exact ⟨⟨i, h, rfl, rfl, hmi, by omega, by omega, Hlo, Hhi2, S2⟩, by simp [intOf]; omega⟩
      · have Hlo2 : Hid (∀ x, a ≤ x → x < h + 1 → (gE L x).T ≤ (gE L m).T) := fun x q1 q2 => by
          have h3 : ¬ (gE L m).T < (gE L h).T := fun h => hv (HV.out.2 h)
          have h4 := H0.out x h q1 (by omega) (by omega)
          omega
        clear HV
        have la := swJ_ld HS.out R HLs.out P m (by rw [HLn.out]; omega)
        have lb := swJ_ld HS.out R HLs.out P h (by rw [HLn.out]; omega)
        have hcm := swJ_cmp HS.out HC.out HLs.out (gE L m) (gE L h)
        have na := R.hk (gE L m)
        have nb := R.hk (gE L h)
        generalize enc (gE L m) = cI at la hcm na
        generalize enc (gE L h) = cJ at lb hcm nb
        generalize cfE (gE L m) (gE L h) = cv at hcm hv
        have hvd : decide (cv < 0) = false := decide_eq_false hv
        go_wp2_with fail
        go_quiet_grown (first | (go_at_fn gf; refine Calls.grown_of (hcm _ _)))
        have S2 : Hid (SWK enc k w0 blk 0 L.toArray (grow (wr.drewN nq) osq)) := HS.out.grown nq osq
        clear la lb hcm HS
        generalize grow (wr.drewN nq) osq = w2 at S2 ⊢
        go_wp2_with fail
        exact ⟨⟨h + 1, j, by go_num, rfl, by omega, by omega, hjb, Hlo2, Hhi, S2⟩, by simp [intOf]; omega⟩
    · obtain rfl : i = j := by omega
      have hltz : ¬ (i : Int) < (i : Int) := by omega
      go_wp2_with fail
      go_loopw [17] (fun vk wr => ∃ (q : Nat) (M : List Er), vk = .int .i64 q ∧ i ≤ q ∧ q ≤ m ∧ Hid (Mv a b L M) ∧ Hid (∀ x, gE M x = if q < x ∧ x ≤ m then gE L (x - 1) else if x = q then gE L m else gE L x) ∧ Hid (SWK enc k w0 blk 0 M.toArray wr)) (fun vk _ => (intOf vk).toNat)
      case atStart => exact ⟨m, L, rfl, hjb, Nat.le_refl _, Mv.refl _ _ _, (fun x => by
        rw [if_neg (by omega)]
        split
        · next e => rw [e]
        · rfl), HS⟩
      case round =>
        clear HS
        obtain ⟨q, M, rfl, hiq, hqm, HM, HG, HS⟩ := hrel
        have HMl : Hid (M.length = N) := HM.out.len.trans HLn.out
        by_cases hq : i < q
        · have hqz : (i : Int) < (q : Int) := by omega
          obtain ⟨p, hp⟩ : ∃ p, q - 1 = p := ⟨_, rfl⟩
          have HN2 : Hid (Mv a b L (swE M q p) ∧ ∀ x, gE (swE M q p) x = if p < x ∧ x ≤ m then gE L (x - 1) else if x = p then gE L m else gE L x) := by
            rw [← hp]
            exact ⟨HM.out.trans (swE_mv ⟨by omega, by omega⟩ ⟨by omega, by omega⟩ (by rw [HMl.out]; exact hb)), step_left (by omega) hqm (by rw [HLn.out]; omega) HM.out.len HG.out⟩
          have w6 : IntKind.i64.wrap ((q : Int) - 1) = (p : Int) := by rw [IntKind.wrap_i64]; omega
          have hMs : M.length = L0.length := by rw [HMl.out, ← HLn.out, HLs.out]
          have e1 : ((q : Int)).toNat = q := by omega
          have e2 : ((p : Int)).toNat = p := by omega
          have b1 : (q : Int) < (N : Int) := by omega
          have b2 : (p : Int) < (N : Int) := by omega
          have hqM : q < M.length := by rw [HMl.out]; omega
          have hpM : p < M.length := by rw [HMl.out]; omega
          have S2 : Hid (SWK enc k w0 blk 0 (swE M q p).toArray ((wr.drew.setCells blk (q * k) (enc (gE M p))).setCells blk (p * k) (enc (gE M q)))) := swJ_swapped HS.out R q p hqM hpM
          have la := swJ_ld1 HS.out R hMs P q hqM
          have lb := swJ_ld1 HS.out R hMs P p hpM
          have sa := swJ_st1 HS.out R hMs P q hqM (gE M p)
          have sb := swJ_st2 HS.out R hMs P q p hqM hpM (gE M p) (gE M q)
          have na := R.hk (gE M q)
          have nb := R.hk (gE M p)
          generalize enc (gE M q) = cI at S2 la sb na
          generalize enc (gE M p) = cJ at S2 lb sa sb nb
          clear HS HG
          have hpI : i ≤ p ∧ p ≤ m ∧ p < q := by omega
          clear hp
          go_wp2_with fail
          go_big_region_o
          clear la lb sa sb
          generalize (wr.drew.setCells blk (q * k) cJ).setCells blk (p * k) cI = w2 at S2 ⊢
          go_wp2_with fail
          exact ⟨⟨p, swE M q p, by go_num, hpI.1, hpI.2.1, HN2.out.1, HN2.out.2, S2⟩, by simp [intOf]; omega⟩
        · obtain rfl : q = i := by omega
          have hqz : ¬ (q : Int) < (q : Int) := by omega
          have HE : Hid (SortR M a b) := by
            obtain rfl : b = m + 1 := by omega
            exact ins_back (i := q) ⟨hmi, hqm⟩ H0.out Hlo.out Hhi.out HG.out
          go_wp2_with fail
          go_returns
          exact ⟨rfl, M, HM.out, HE.out, HS.out⟩
end Go.Proofs.YtigegdelhpdlhaaGreatDoor

/- Layer 18: the long way of the library's symMerge. (By jsym.py.) -/
namespace Go.Proofs.YtigegdelhpdlhaaGreatDoor
open Go.RowKit QP Go.Sort Go.Shelf Go.Lib

set_option maxRecDepth 1000000 in
set_option maxHeartbeats 32000000 in
theorem jsym_long {P : Program} {k : Nat} (Q : PJ P k) (U : PU P) (FG : P.funcs[126]? = some Tryz.f126) (enc : Er → List Value) (gf : Nat) (eg : ∀ args w, (callFunc gf args).run P w = .ok (.enter gf args) w) (w0 : World) (blk cap : Nat) (L0 : List Er) (R : Go.Proofs.RowK enc k w0 blk 0 L0.toArray) (hC : CmpLays P gf #[] enc k cfE blk 0 L0.length w0) (FR : P.funcs[150]? = some Tryz.f150) (FS : P.funcs[176]? = some Tryz.f176) (a m b : Nat)
    (IH : ∀ (a' m' b' : Nat) (L : List Er) (W : World), b' - a' < b - a → L.length = L0.length → (a' < m' ∧ m' < b') → b' ≤ L0.length → SortR L a' m' → SortR L m' b' → SWK enc k w0 blk 0 L.toArray W →
      Calls P 126 #[.slice (some ⟨blk, 0, none⟩) L.length cap, .int .i64 (a' : Int), .int .i64 (m' : Int), .int .i64 (b' : Int), .func (.func gf) #[] #[]] W fun e w' => e = .returned (.tuple #[]) ∧ ∃ L', Mv a' b' L L' ∧ SortR L' a' b' ∧ SWK enc k w0 blk 0 L'.toArray w')
    (L : List Er) (W : World) (hs : L.length = L0.length) (hab : a < m ∧ m < b) (hb : b ≤ L.length) (hL : L.length ≤ 1000) (s1 : SortR L a m) (s2 : SortR L m b) (S : SWK enc k w0 blk 0 L.toArray W) (h1 : ¬ m - a = 1) (h2 : ¬ b - m = 1) :
    Calls P 126 #[.slice (some ⟨blk, 0, none⟩) L.length cap, .int .i64 (a : Int), .int .i64 (m : Int), .int .i64 (b : Int), .func (.func gf) #[] #[]] W fun e w' => e = .returned (.tuple #[]) ∧ ∃ L', Mv a b L L' ∧ SortR L' a b ∧ SWK enc k w0 blk 0 L'.toArray w' := by
  have egR : ∀ args w, (callFunc 150 args).run P w = .ok (.enter 150 args) w := enters_of FR (by kernel_rfl) rfl
  have egM : ∀ args w, (callFunc 126 args).run P w = .ok (.enter 126 args) w := enters_of FG (by kernel_rfl) rfl
  have HRot0 : Hid (∀ (s en : Nat) u, (s < m ∧ m < en) → en ≤ b → SWK enc k w0 blk 0 L.toArray u → Calls P 150 #[.slice (some ⟨blk, 0, none⟩) L.length cap, .int .i64 (s : Int), .int .i64 (m : Int), .int .i64 (en : Int), .func (.func gf) #[] #[]] u fun e w' => e = .returned (.tuple #[]) ∧ ∃ L', Mv s en L L' ∧ (∀ x, gE L' x = rotF L s m en x) ∧ SWK enc k w0 blk 0 L'.toArray w') := fun s en u q1 q2 q3 =>
    jrot_gen Q FR FS enc gf w0 blk cap s m en L0 L u R q3 hs q1 (by omega) hL
  have HIH0 : Hid (∀ (a' m' b' : Nat) (L : List Er) (W : World), b' - a' < b - a → L.length = L0.length → (a' < m' ∧ m' < b') → b' ≤ L0.length → SortR L a' m' → SortR L m' b' → SWK enc k w0 blk 0 L.toArray W →
      Calls P 126 #[.slice (some ⟨blk, 0, none⟩) L.length cap, .int .i64 (a' : Int), .int .i64 (m' : Int), .int .i64 (b' : Int), .func (.func gf) #[] #[]] W fun e w' => e = .returned (.tuple #[]) ∧ ∃ L', Mv a' b' L L' ∧ SortR L' a' b' ∧ SWK enc k w0 blk 0 L'.toArray w') := IH
  clear IH
  have mixed := Q.mixed; have t3 := Q.t3; have a3 := Q.a3; have z3 := Q.z3; have v3 := Q.v3; have t38 := Q.t38; have a38 := Q.a38; have z38 := Q.z38; have v38 := Q.v38; have aE := Q.aE; have zE := Q.zE
  have t172 := U.t172; have a172 := U.a172; have z172 := U.z172; have v172 := U.v172; have t4 := U.t4; have a4 := U.a4; have z4 := U.z4
  have u38 := run_underlying Q.t38
  have HC : Hid (CmpLays P gf #[] enc k cfE blk 0 L0.length w0) := hC
  obtain ⟨N, hN⟩ : ∃ N, L.length = N := ⟨_, rfl⟩
  have HLn : Hid (L.length = N) := hN
  have HLs : Hid (L.length = L0.length) := hs
  have HS0 : Hid (SWK enc k w0 blk 0 L.toArray W) := S
  have HIH : Hid (∀ (a' m' b' : Nat) (L : List Er) (W : World), b' - a' < b - a → L.length = L0.length → (a' < m' ∧ m' < b') → b' ≤ N → SortR L a' m' → SortR L m' b' → SWK enc k w0 blk 0 L.toArray W → Calls P 126 #[.slice (some ⟨blk, 0, none⟩) L.length cap, .int .i64 (a' : Int), .int .i64 (m' : Int), .int .i64 (b' : Int), .func (.func gf) #[] #[]] W fun e w' => e = .returned (.tuple #[]) ∧ ∃ L', Mv a' b' L L' ∧ SortR L' a' b' ∧ SWK enc k w0 blk 0 L'.toArray w') := fun a' m' b' M u q1 q2 q3 q4 => HIH0.out a' m' b' M u q1 q2 q3 (by rw [← hs, hN]; exact q4)
  rw [hN] at hb hL HRot0 ⊢
  have HRot := HRot0
  clear HRot0 HIH0
  clear S hN hs hC
  obtain ⟨f0, hf0, f0d⟩ : ∃ z : Int, IntKind.i64.wrap ((m : Int) - (a : Int)) = z ∧ ¬ z = 1 := ⟨_, rfl, by rw [IntKind.wrap_i64]; omega⟩
  have f0e : (f0 == 1) = false := by rw [beq_eq_false_iff_ne]; exact f0d
  obtain ⟨f1, hf1, f1d⟩ : ∃ z : Int, IntKind.i64.wrap ((b : Int) - (m : Int)) = z ∧ ¬ z = 1 := ⟨_, rfl, by rw [IntKind.wrap_i64]; omega⟩
  have f1e : (f1 == 1) = false := by rw [beq_eq_false_iff_ne]; exact f1d
  obtain ⟨md, hmd⟩ : ∃ md, (a + b) / 2 = md := ⟨_, rfl⟩
  obtain ⟨n, hn⟩ : ∃ n, md + m = n := ⟨_, rfl⟩
  have f2 : IntKind.i64.wrap ((a : Int) + (b : Int)) = (a : Int) + (b : Int) := by rw [IntKind.wrap_i64]; omega
  have f3 : IntKind.u64.wrap ((a : Int) + (b : Int)) = ((a + b : Nat) : Int) := by rw [wrap_u64j]; omega
  have f4 : ((a : Int) + (b : Int)) / 2 = (md : Int) := by omega
  have f5 : IntKind.i64.wrap (md : Int) = (md : Int) := by rw [IntKind.wrap_i64]; omega
  have f6 : IntKind.i64.wrap ((md : Int) + (m : Int)) = (n : Int) := by rw [IntKind.wrap_i64]; omega
  have f7 : IntKind.i64.wrap ((n : Int) - 1) = (n : Int) - 1 := by rw [IntKind.wrap_i64]; omega
  have hamd : a ≤ md := by omega
  have hmdb : md ≤ b := by omega
  have hmd2 : 2 * md ≤ a + b ∧ a + b ≤ 2 * md + 1 := by omega
  have H0 : Hid (SortR L a m ∧ SortR L m b) := ⟨s1, s2⟩
  clear s1 s2
  by_cases hgt : md < m
  · have f8 : (md : Int) < (m : Int) := by omega
    obtain ⟨lo, hlo⟩ : ∃ lo, n - b = lo := ⟨_, rfl⟩
    have f9 : IntKind.i64.wrap ((n : Int) - (b : Int)) = (lo : Int) := by rw [IntKind.wrap_i64]; omega
    go_enter FG, Tryz.ntmps126
    go_wp2_with fail
    go_loopw [20, 21] (fun vi vj wr => ∃ s r : Nat, vi = .int .i64 s ∧ vj = .int .i64 r ∧ lo ≤ s ∧ s ≤ r ∧ r ≤ md ∧ Hid (∀ c, lo ≤ c → c < s → (gE L c).T ≤ (gE L (n - 1 - c)).T) ∧ Hid (∀ c, r ≤ c → c < md → (gE L (n - 1 - c)).T < (gE L c).T) ∧ Hid (SWK enc k w0 blk 0 L.toArray wr)) (fun vi vj _ => (intOf vj).toNat - (intOf vi).toNat)
    case atStart => exact ⟨lo, md, by go_num, by go_num, Nat.le_refl _, by omega, Nat.le_refl _, (fun x h1 h2 => by omega), (fun x h1 h2 => by omega), HS0⟩
    case round =>
      clear HS0 f0d f0e f1d f1e f2 f3 f4 f5 f6 f7 f8 f9 hf0 hf1
      obtain ⟨s, r, rfl, rfl, hls, hsr, hrh, Hlo, Hhi, HS⟩ := hrel
      by_cases hlt : s < r
      · have hltz : (s : Int) < (r : Int) := by omega
        obtain ⟨h, hh⟩ : ∃ h, (s + r) / 2 = h := ⟨_, rfl⟩
        have w1h : IntKind.i64.wrap ((s : Int) + (r : Int)) = (s : Int) + (r : Int) := by rw [IntKind.wrap_i64]; omega
        have w2h : IntKind.u64.wrap ((s : Int) + (r : Int)) = ((s + r : Nat) : Int) := by rw [wrap_u64j]; omega
        have w3h : ((s : Int) + (r : Int)) / 2 = (h : Int) := by omega
        have w4h : IntKind.i64.wrap (h : Int) = (h : Int) := by rw [IntKind.wrap_i64]; omega
        have hh1 : s ≤ h ∧ h < r := by omega
        obtain ⟨p, hp⟩ : ∃ p, n - 1 - h = p := ⟨_, rfl⟩
        have hpm : m ≤ p ∧ p < b := by omega
        have hhm : a ≤ h ∧ h < m := by omega
        have w5 : IntKind.i64.wrap ((n : Int) - 1 - (h : Int)) = (p : Int) := by rw [IntKind.wrap_i64]; omega
        have bp : (p : Int) < (N : Int) := by omega
        have bh : (h : Int) < (N : Int) := by omega
        have HV : Hid (cfE (gE L p) (gE L h) < 0 ↔ (gE L p).T < (gE L h).T) := cfE_neg _ _
        by_cases hv : cfE (gE L p) (gE L h) < 0
        · have Hhi2 : Hid (∀ c, h ≤ c → c < md → (gE L (n - 1 - c)).T < (gE L c).T) := fun c q1 q2 => by
            have h3 := HV.out.1 hv
            have h4 := H0.out.1 h c (by omega) q1 (by omega)
            have h5 := H0.out.2 (n - 1 - c) p (by omega) (by omega) (by omega)
            omega
          clear HV
          have la := swJ_ld HS.out R HLs.out P p (by rw [HLn.out]; omega)
          have lb := swJ_ld HS.out R HLs.out P h (by rw [HLn.out]; omega)
          have hcm := swJ_cmp HS.out HC.out HLs.out (gE L p) (gE L h)
          have na := R.hk (gE L p)
          have nb := R.hk (gE L h)
          generalize enc (gE L p) = cI at la hcm na
          generalize enc (gE L h) = cJ at lb hcm nb
          generalize cfE (gE L p) (gE L h) = cv at hcm hv
          have hvd : decide (cv < 0) = true := decide_eq_true hv
          go_wp2_with fail
          go_quiet_grown (first | (go_at_fn gf; refine Calls.grown_of (hcm _ _)))
          have S2 : Hid (SWK enc k w0 blk 0 L.toArray (grow (wr.drewN nq) osq)) := HS.out.grown nq osq
          clear la lb hcm HS
          generalize grow (wr.drewN nq) osq = w2 at S2 ⊢
          go_wp2_with fail
          exact ⟨⟨s, h, rfl, rfl, hls, by omega, by omega, Hlo, Hhi2, S2⟩, by simp [intOf]; omega⟩
        · have Hlo2 : Hid (∀ c, lo ≤ c → c < h + 1 → (gE L c).T ≤ (gE L (n - 1 - c)).T) := fun c q1 q2 => by
            have h3 : ¬ (gE L p).T < (gE L h).T := fun h => hv (HV.out.2 h)
            have h4 := H0.out.1 c h (by omega) (by omega) (by omega)
            have h5 := H0.out.2 p (n - 1 - c) (by omega) (by omega) (by omega)
            omega
          clear HV
          have la := swJ_ld HS.out R HLs.out P p (by rw [HLn.out]; omega)
          have lb := swJ_ld HS.out R HLs.out P h (by rw [HLn.out]; omega)
          have hcm := swJ_cmp HS.out HC.out HLs.out (gE L p) (gE L h)
          have na := R.hk (gE L p)
          have nb := R.hk (gE L h)
          generalize enc (gE L p) = cI at la hcm na
          generalize enc (gE L h) = cJ at lb hcm nb
          generalize cfE (gE L p) (gE L h) = cv at hcm hv
          have hvd : decide (cv < 0) = false := decide_eq_false hv
          go_wp2_with fail
          go_quiet_grown (first | (go_at_fn gf; refine Calls.grown_of (hcm _ _)))
          have S2 : Hid (SWK enc k w0 blk 0 L.toArray (grow (wr.drewN nq) osq)) := HS.out.grown nq osq
          clear la lb hcm HS
          generalize grow (wr.drewN nq) osq = w2 at S2 ⊢
          go_wp2_with fail
          exact ⟨⟨h + 1, r, by go_num, rfl, by omega, by omega, hrh, Hlo2, Hhi, S2⟩, by simp [intOf]; omega⟩
      · obtain rfl : s = r := by omega
        have hltz : ¬ (s : Int) < (s : Int) := by omega
        have HCut : Hid (Cut L a m b s) := by
          refine ⟨⟨by omega, by omega⟩, ⟨by omega, by omega⟩, ?_, ?_⟩
          · rcases (show s = (a + b) / 2 + m - b ∨ lo < s by omega) with e | e
            · exact Or.inr (Or.inl e)
            · exact Or.inr (Or.inr (by
                have := Hlo.out (s - 1) (by omega) (by omega)
                rw [show n - 1 - (s - 1) = (a + b) / 2 + m - s by omega] at this
                exact this))
          · rcases (show s = (a + b) / 2 ∨ s < md by omega) with e | e
            · exact Or.inr (Or.inl e)
            · exact Or.inr (Or.inr (by
                have := Hhi.out s (by omega) (by omega)
                rw [show n - 1 - s = (a + b) / 2 + m - 1 - s by omega] at this
                exact this))
        obtain ⟨en, hen⟩ : ∃ en, n - s = en := ⟨_, rfl⟩
        have HSp : Hid (∀ L1, (∀ x, gE L1 x = rotF L s m en x) → SortR L1 a s ∧ SortR L1 s md ∧ SortR L1 md en ∧ SortR L1 en b ∧ ∀ i j, a ≤ i → i < md → md ≤ j → j < b → (gE L1 i).T ≤ (gE L1 j).T) := fun L1 g => by
          have he : (a + b) / 2 + m - s = en := by omega
          have := mg_split (L1 := L1) hab H0.out.1 H0.out.2 HCut.out (by rw [he]; exact g)
          rw [he, hmd] at this
          exact this
        have w9 : IntKind.i64.wrap ((n : Int) - (s : Int)) = (en : Int) := by rw [IntKind.wrap_i64]; omega
        have hs8 : s ≤ m ∧ s ≤ md ∧ a ≤ s ∧ m ≤ en ∧ en ≤ b ∧ md ≤ en ∧ en + s = md + m := by omega
        obtain ⟨z1, z2, z3, z4, z5, z6, z7⟩ := hs8
        clear Hlo Hhi HCut hen hls hrh
        by_cases h1 : s < m ∧ m < en
        · have t5 : (s : Int) < (m : Int) := by omega
          have t6 : (m : Int) < (en : Int) := by omega
          have HRo := HRot.out s en wr h1 (by omega) HS.out
          go_wp2_with fail
          refine HRo.mono ?_
          rintro e w7 ⟨rfl, L1, M1, G1, S7⟩
          have H1 : Hid ((SortR L1 a s ∧ SortR L1 s md ∧ SortR L1 md en ∧ SortR L1 en b ∧ ∀ i j, a ≤ i → i < md → md ≤ j → j < b → (gE L1 i).T ≤ (gE L1 j).T) ∧ Mv a b L L1) := ⟨HSp.out L1 G1, M1.mono (by omega) (by omega)⟩
          have HS7 : Hid (SWK enc k w0 blk 0 L1.toArray w7) := S7
          clear M1 G1 S7 HRo HS
          by_cases h2 : a < s ∧ s < md
          · have t3 : (a : Int) < (s : Int) := by omega
            have t4 : (s : Int) < (md : Int) := by omega
            have HI2 := HIH.out a s md L1 w7 (by omega) (by rw [H1.out.2.len]; exact HLs.out) h2 (by omega) H1.out.1.1 H1.out.1.2.1 HS7.out
            rw [show L1.length = N by rw [H1.out.2.len]; exact HLn.out] at HI2
            go_wp2_with fail
            refine HI2.mono ?_
            rintro e w8 ⟨rfl, L2, M2, O2, S8⟩
            have HM2 : Hid (Mv a md L1 L2 ∧ SortR L2 a md) := ⟨M2, O2⟩
            have HS8 : Hid (SWK enc k w0 blk 0 L2.toArray w8) := S8
            clear M2 O2 S8 HI2
            by_cases h3 : md < en ∧ en < b
            · have t1 : (md : Int) < (en : Int) := by omega
              have t2 : (en : Int) < (b : Int) := by omega
              have HI3 := HIH.out md en b L2 w8 (by omega) (by rw [HM2.out.1.len, H1.out.2.len]; exact HLs.out) h3 hb (sort_out HM2.out.1 (Nat.le_refl _) H1.out.1.2.2.1) (sort_out HM2.out.1 (by omega) H1.out.1.2.2.2.1) HS8.out
              rw [show L2.length = N by rw [HM2.out.1.len, H1.out.2.len]; exact HLn.out] at HI3
              go_wp2_with (go_at_call 126; (with_reducible refine HI3.mono ?_); rintro e w9 ⟨rfl, L3, M3, O3, S9⟩)
              go_end0
              exact ⟨rfl, L3, (H1.out.2.trans (HM2.out.1.mono (Nat.le_refl _) hmdb)).trans (M3.mono hamd (Nat.le_refl _)), mg_join H1.out.1.2.2.2.2 HM2.out.1 HM2.out.2 M3 O3, S9⟩
            · have HO3 : Hid (SortR L2 md b) := sort_whole (sort_out HM2.out.1 (Nat.le_refl _) H1.out.1.2.2.1) (sort_out HM2.out.1 (by omega) H1.out.1.2.2.2.1) (by omega) (by omega)
              rcases (show ¬ md < en ∨ (md < en ∧ ¬ en < b) by omega) with h3a | ⟨h3a, h3b⟩
              · have t1 : ¬ (md : Int) < (en : Int) := by omega
                go_wp2_with fail
                go_end0
                exact ⟨rfl, L2, H1.out.2.trans (HM2.out.1.mono (Nat.le_refl _) hmdb), mg_join H1.out.1.2.2.2.2 HM2.out.1 HM2.out.2 (Mv.refl _ _ _) HO3.out, HS8.out⟩
              · have t1 : (md : Int) < (en : Int) := by omega
                have t2 : ¬ (en : Int) < (b : Int) := by omega
                go_wp2_with fail
                go_end0
                exact ⟨rfl, L2, H1.out.2.trans (HM2.out.1.mono (Nat.le_refl _) hmdb), mg_join H1.out.1.2.2.2.2 HM2.out.1 HM2.out.2 (Mv.refl _ _ _) HO3.out, HS8.out⟩
          · have HM2 : Hid (Mv a md L1 L1 ∧ SortR L1 a md) := ⟨Mv.refl _ _ _, sort_whole H1.out.1.1 H1.out.1.2.1 (by omega) (by omega)⟩
            rcases (show ¬ a < s ∨ (a < s ∧ ¬ s < md) by omega) with h2a | ⟨h2a, h2b⟩
            · have t3 : ¬ (a : Int) < (s : Int) := by omega
              by_cases h3 : md < en ∧ en < b
              · have t1 : (md : Int) < (en : Int) := by omega
                have t2 : (en : Int) < (b : Int) := by omega
                have HI3 := HIH.out md en b L1 w7 (by omega) (by rw [HM2.out.1.len, H1.out.2.len]; exact HLs.out) h3 hb (sort_out HM2.out.1 (Nat.le_refl _) H1.out.1.2.2.1) (sort_out HM2.out.1 (by omega) H1.out.1.2.2.2.1) HS7.out
                rw [show L1.length = N by rw [HM2.out.1.len, H1.out.2.len]; exact HLn.out] at HI3
                go_wp2_with (go_at_call 126; (with_reducible refine HI3.mono ?_); rintro e w9 ⟨rfl, L3, M3, O3, S9⟩)
                go_end0
                exact ⟨rfl, L3, (H1.out.2.trans (HM2.out.1.mono (Nat.le_refl _) hmdb)).trans (M3.mono hamd (Nat.le_refl _)), mg_join H1.out.1.2.2.2.2 HM2.out.1 HM2.out.2 M3 O3, S9⟩
              · have HO3 : Hid (SortR L1 md b) := sort_whole (sort_out HM2.out.1 (Nat.le_refl _) H1.out.1.2.2.1) (sort_out HM2.out.1 (by omega) H1.out.1.2.2.2.1) (by omega) (by omega)
                rcases (show ¬ md < en ∨ (md < en ∧ ¬ en < b) by omega) with h3a | ⟨h3a, h3b⟩
                · have t1 : ¬ (md : Int) < (en : Int) := by omega
                  go_wp2_with fail
                  go_end0
                  exact ⟨rfl, L1, H1.out.2.trans (HM2.out.1.mono (Nat.le_refl _) hmdb), mg_join H1.out.1.2.2.2.2 HM2.out.1 HM2.out.2 (Mv.refl _ _ _) HO3.out, HS7.out⟩
                · have t1 : (md : Int) < (en : Int) := by omega
                  have t2 : ¬ (en : Int) < (b : Int) := by omega
                  go_wp2_with fail
                  go_end0
                  exact ⟨rfl, L1, H1.out.2.trans (HM2.out.1.mono (Nat.le_refl _) hmdb), mg_join H1.out.1.2.2.2.2 HM2.out.1 HM2.out.2 (Mv.refl _ _ _) HO3.out, HS7.out⟩
            · have t3 : (a : Int) < (s : Int) := by omega
              have t4 : ¬ (s : Int) < (md : Int) := by omega
              by_cases h3 : md < en ∧ en < b
              · have t1 : (md : Int) < (en : Int) := by omega
                have t2 : (en : Int) < (b : Int) := by omega
                have HI3 := HIH.out md en b L1 w7 (by omega) (by rw [HM2.out.1.len, H1.out.2.len]; exact HLs.out) h3 hb (sort_out HM2.out.1 (Nat.le_refl _) H1.out.1.2.2.1) (sort_out HM2.out.1 (by omega) H1.out.1.2.2.2.1) HS7.out
                rw [show L1.length = N by rw [HM2.out.1.len, H1.out.2.len]; exact HLn.out] at HI3
                go_wp2_with (go_at_call 126; (with_reducible refine HI3.mono ?_); rintro e w9 ⟨rfl, L3, M3, O3, S9⟩)
                go_end0
                exact ⟨rfl, L3, (H1.out.2.trans (HM2.out.1.mono (Nat.le_refl _) hmdb)).trans (M3.mono hamd (Nat.le_refl _)), mg_join H1.out.1.2.2.2.2 HM2.out.1 HM2.out.2 M3 O3, S9⟩
              · have HO3 : Hid (SortR L1 md b) := sort_whole (sort_out HM2.out.1 (Nat.le_refl _) H1.out.1.2.2.1) (sort_out HM2.out.1 (by omega) H1.out.1.2.2.2.1) (by omega) (by omega)
                rcases (show ¬ md < en ∨ (md < en ∧ ¬ en < b) by omega) with h3a | ⟨h3a, h3b⟩
                · have t1 : ¬ (md : Int) < (en : Int) := by omega
                  go_wp2_with fail
                  go_end0
                  exact ⟨rfl, L1, H1.out.2.trans (HM2.out.1.mono (Nat.le_refl _) hmdb), mg_join H1.out.1.2.2.2.2 HM2.out.1 HM2.out.2 (Mv.refl _ _ _) HO3.out, HS7.out⟩
                · have t1 : (md : Int) < (en : Int) := by omega
                  have t2 : ¬ (en : Int) < (b : Int) := by omega
                  go_wp2_with fail
                  go_end0
                  exact ⟨rfl, L1, H1.out.2.trans (HM2.out.1.mono (Nat.le_refl _) hmdb), mg_join H1.out.1.2.2.2.2 HM2.out.1 HM2.out.2 (Mv.refl _ _ _) HO3.out, HS7.out⟩
        · have H1 : Hid ((SortR L a s ∧ SortR L s md ∧ SortR L md en ∧ SortR L en b ∧ ∀ i j, a ≤ i → i < md → md ≤ j → j < b → (gE L i).T ≤ (gE L j).T) ∧ Mv a b L L) := ⟨HSp.out L (fun x => by
            rcases (show s = m ∨ m = en by omega) with e | e
            · rw [e]; exact rotF_none1.symm
            · rw [← e]; exact rotF_none2.symm), Mv.refl _ _ _⟩
          rcases (show ¬ s < m ∨ (s < m ∧ ¬ m < en) by omega) with h1a | ⟨h1a, h1b⟩
          · have t5 : ¬ (s : Int) < (m : Int) := by omega
            by_cases h2 : a < s ∧ s < md
            · have t3 : (a : Int) < (s : Int) := by omega
              have t4 : (s : Int) < (md : Int) := by omega
              have HI2 := HIH.out a s md L wr (by omega) (by rw [H1.out.2.len]; exact HLs.out) h2 (by omega) H1.out.1.1 H1.out.1.2.1 HS.out
              rw [show L.length = N by rw [H1.out.2.len]; exact HLn.out] at HI2
              go_wp2_with fail
              refine HI2.mono ?_
              rintro e w8 ⟨rfl, L2, M2, O2, S8⟩
              have HM2 : Hid (Mv a md L L2 ∧ SortR L2 a md) := ⟨M2, O2⟩
              have HS8 : Hid (SWK enc k w0 blk 0 L2.toArray w8) := S8
              clear M2 O2 S8 HI2
              by_cases h3 : md < en ∧ en < b
              · have t1 : (md : Int) < (en : Int) := by omega
                have t2 : (en : Int) < (b : Int) := by omega
                have HI3 := HIH.out md en b L2 w8 (by omega) (by rw [HM2.out.1.len, H1.out.2.len]; exact HLs.out) h3 hb (sort_out HM2.out.1 (Nat.le_refl _) H1.out.1.2.2.1) (sort_out HM2.out.1 (by omega) H1.out.1.2.2.2.1) HS8.out
                rw [show L2.length = N by rw [HM2.out.1.len, H1.out.2.len]; exact HLn.out] at HI3
                go_wp2_with (go_at_call 126; (with_reducible refine HI3.mono ?_); rintro e w9 ⟨rfl, L3, M3, O3, S9⟩)
                go_end0
                exact ⟨rfl, L3, (H1.out.2.trans (HM2.out.1.mono (Nat.le_refl _) hmdb)).trans (M3.mono hamd (Nat.le_refl _)), mg_join H1.out.1.2.2.2.2 HM2.out.1 HM2.out.2 M3 O3, S9⟩
              · have HO3 : Hid (SortR L2 md b) := sort_whole (sort_out HM2.out.1 (Nat.le_refl _) H1.out.1.2.2.1) (sort_out HM2.out.1 (by omega) H1.out.1.2.2.2.1) (by omega) (by omega)
                rcases (show ¬ md < en ∨ (md < en ∧ ¬ en < b) by omega) with h3a | ⟨h3a, h3b⟩
                · have t1 : ¬ (md : Int) < (en : Int) := by omega
                  go_wp2_with fail
                  go_end0
                  exact ⟨rfl, L2, H1.out.2.trans (HM2.out.1.mono (Nat.le_refl _) hmdb), mg_join H1.out.1.2.2.2.2 HM2.out.1 HM2.out.2 (Mv.refl _ _ _) HO3.out, HS8.out⟩
                · have t1 : (md : Int) < (en : Int) := by omega
                  have t2 : ¬ (en : Int) < (b : Int) := by omega
                  go_wp2_with fail
                  go_end0
                  exact ⟨rfl, L2, H1.out.2.trans (HM2.out.1.mono (Nat.le_refl _) hmdb), mg_join H1.out.1.2.2.2.2 HM2.out.1 HM2.out.2 (Mv.refl _ _ _) HO3.out, HS8.out⟩
            · have HM2 : Hid (Mv a md L L ∧ SortR L a md) := ⟨Mv.refl _ _ _, sort_whole H1.out.1.1 H1.out.1.2.1 (by omega) (by omega)⟩
              rcases (show ¬ a < s ∨ (a < s ∧ ¬ s < md) by omega) with h2a | ⟨h2a, h2b⟩
              · have t3 : ¬ (a : Int) < (s : Int) := by omega
                by_cases h3 : md < en ∧ en < b
                · have t1 : (md : Int) < (en : Int) := by omega
                  have t2 : (en : Int) < (b : Int) := by omega
                  have HI3 := HIH.out md en b L wr (by omega) (by rw [HM2.out.1.len, H1.out.2.len]; exact HLs.out) h3 hb (sort_out HM2.out.1 (Nat.le_refl _) H1.out.1.2.2.1) (sort_out HM2.out.1 (by omega) H1.out.1.2.2.2.1) HS.out
                  rw [show L.length = N by rw [HM2.out.1.len, H1.out.2.len]; exact HLn.out] at HI3
                  go_wp2_with (go_at_call 126; (with_reducible refine HI3.mono ?_); rintro e w9 ⟨rfl, L3, M3, O3, S9⟩)
                  go_end0
                  exact ⟨rfl, L3, (H1.out.2.trans (HM2.out.1.mono (Nat.le_refl _) hmdb)).trans (M3.mono hamd (Nat.le_refl _)), mg_join H1.out.1.2.2.2.2 HM2.out.1 HM2.out.2 M3 O3, S9⟩
                · have HO3 : Hid (SortR L md b) := sort_whole (sort_out HM2.out.1 (Nat.le_refl _) H1.out.1.2.2.1) (sort_out HM2.out.1 (by omega) H1.out.1.2.2.2.1) (by omega) (by omega)
                  rcases (show ¬ md < en ∨ (md < en ∧ ¬ en < b) by omega) with h3a | ⟨h3a, h3b⟩
                  · have t1 : ¬ (md : Int) < (en : Int) := by omega
                    go_wp2_with fail
                    go_end0
                    exact ⟨rfl, L, H1.out.2.trans (HM2.out.1.mono (Nat.le_refl _) hmdb), mg_join H1.out.1.2.2.2.2 HM2.out.1 HM2.out.2 (Mv.refl _ _ _) HO3.out, HS.out⟩
                  · have t1 : (md : Int) < (en : Int) := by omega
                    have t2 : ¬ (en : Int) < (b : Int) := by omega
                    go_wp2_with fail
                    go_end0
                    exact ⟨rfl, L, H1.out.2.trans (HM2.out.1.mono (Nat.le_refl _) hmdb), mg_join H1.out.1.2.2.2.2 HM2.out.1 HM2.out.2 (Mv.refl _ _ _) HO3.out, HS.out⟩
              · have t3 : (a : Int) < (s : Int) := by omega
                have t4 : ¬ (s : Int) < (md : Int) := by omega
                by_cases h3 : md < en ∧ en < b
                · have t1 : (md : Int) < (en : Int) := by omega
                  have t2 : (en : Int) < (b : Int) := by omega
                  have HI3 := HIH.out md en b L wr (by omega) (by rw [HM2.out.1.len, H1.out.2.len]; exact HLs.out) h3 hb (sort_out HM2.out.1 (Nat.le_refl _) H1.out.1.2.2.1) (sort_out HM2.out.1 (by omega) H1.out.1.2.2.2.1) HS.out
                  rw [show L.length = N by rw [HM2.out.1.len, H1.out.2.len]; exact HLn.out] at HI3
                  go_wp2_with (go_at_call 126; (with_reducible refine HI3.mono ?_); rintro e w9 ⟨rfl, L3, M3, O3, S9⟩)
                  go_end0
                  exact ⟨rfl, L3, (H1.out.2.trans (HM2.out.1.mono (Nat.le_refl _) hmdb)).trans (M3.mono hamd (Nat.le_refl _)), mg_join H1.out.1.2.2.2.2 HM2.out.1 HM2.out.2 M3 O3, S9⟩
                · have HO3 : Hid (SortR L md b) := sort_whole (sort_out HM2.out.1 (Nat.le_refl _) H1.out.1.2.2.1) (sort_out HM2.out.1 (by omega) H1.out.1.2.2.2.1) (by omega) (by omega)
                  rcases (show ¬ md < en ∨ (md < en ∧ ¬ en < b) by omega) with h3a | ⟨h3a, h3b⟩
                  · have t1 : ¬ (md : Int) < (en : Int) := by omega
                    go_wp2_with fail
                    go_end0
                    exact ⟨rfl, L, H1.out.2.trans (HM2.out.1.mono (Nat.le_refl _) hmdb), mg_join H1.out.1.2.2.2.2 HM2.out.1 HM2.out.2 (Mv.refl _ _ _) HO3.out, HS.out⟩
                  · have t1 : (md : Int) < (en : Int) := by omega
                    have t2 : ¬ (en : Int) < (b : Int) := by omega
                    go_wp2_with fail
                    go_end0
                    exact ⟨rfl, L, H1.out.2.trans (HM2.out.1.mono (Nat.le_refl _) hmdb), mg_join H1.out.1.2.2.2.2 HM2.out.1 HM2.out.2 (Mv.refl _ _ _) HO3.out, HS.out⟩
          · have t5 : (s : Int) < (m : Int) := by omega
            have t6 : ¬ (m : Int) < (en : Int) := by omega
            by_cases h2 : a < s ∧ s < md
            · have t3 : (a : Int) < (s : Int) := by omega
              have t4 : (s : Int) < (md : Int) := by omega
              have HI2 := HIH.out a s md L wr (by omega) (by rw [H1.out.2.len]; exact HLs.out) h2 (by omega) H1.out.1.1 H1.out.1.2.1 HS.out
              rw [show L.length = N by rw [H1.out.2.len]; exact HLn.out] at HI2
              go_wp2_with fail
              refine HI2.mono ?_
              rintro e w8 ⟨rfl, L2, M2, O2, S8⟩
              have HM2 : Hid (Mv a md L L2 ∧ SortR L2 a md) := ⟨M2, O2⟩
              have HS8 : Hid (SWK enc k w0 blk 0 L2.toArray w8) := S8
              clear M2 O2 S8 HI2
              by_cases h3 : md < en ∧ en < b
              · have t1 : (md : Int) < (en : Int) := by omega
                have t2 : (en : Int) < (b : Int) := by omega
                have HI3 := HIH.out md en b L2 w8 (by omega) (by rw [HM2.out.1.len, H1.out.2.len]; exact HLs.out) h3 hb (sort_out HM2.out.1 (Nat.le_refl _) H1.out.1.2.2.1) (sort_out HM2.out.1 (by omega) H1.out.1.2.2.2.1) HS8.out
                rw [show L2.length = N by rw [HM2.out.1.len, H1.out.2.len]; exact HLn.out] at HI3
                go_wp2_with (go_at_call 126; (with_reducible refine HI3.mono ?_); rintro e w9 ⟨rfl, L3, M3, O3, S9⟩)
                go_end0
                exact ⟨rfl, L3, (H1.out.2.trans (HM2.out.1.mono (Nat.le_refl _) hmdb)).trans (M3.mono hamd (Nat.le_refl _)), mg_join H1.out.1.2.2.2.2 HM2.out.1 HM2.out.2 M3 O3, S9⟩
              · have HO3 : Hid (SortR L2 md b) := sort_whole (sort_out HM2.out.1 (Nat.le_refl _) H1.out.1.2.2.1) (sort_out HM2.out.1 (by omega) H1.out.1.2.2.2.1) (by omega) (by omega)
                rcases (show ¬ md < en ∨ (md < en ∧ ¬ en < b) by omega) with h3a | ⟨h3a, h3b⟩
                · have t1 : ¬ (md : Int) < (en : Int) := by omega
                  go_wp2_with fail
                  go_end0
                  exact ⟨rfl, L2, H1.out.2.trans (HM2.out.1.mono (Nat.le_refl _) hmdb), mg_join H1.out.1.2.2.2.2 HM2.out.1 HM2.out.2 (Mv.refl _ _ _) HO3.out, HS8.out⟩
                · have t1 : (md : Int) < (en : Int) := by omega
                  have t2 : ¬ (en : Int) < (b : Int) := by omega
                  go_wp2_with fail
                  go_end0
                  exact ⟨rfl, L2, H1.out.2.trans (HM2.out.1.mono (Nat.le_refl _) hmdb), mg_join H1.out.1.2.2.2.2 HM2.out.1 HM2.out.2 (Mv.refl _ _ _) HO3.out, HS8.out⟩
            · have HM2 : Hid (Mv a md L L ∧ SortR L a md) := ⟨Mv.refl _ _ _, sort_whole H1.out.1.1 H1.out.1.2.1 (by omega) (by omega)⟩
              rcases (show ¬ a < s ∨ (a < s ∧ ¬ s < md) by omega) with h2a | ⟨h2a, h2b⟩
              · have t3 : ¬ (a : Int) < (s : Int) := by omega
                by_cases h3 : md < en ∧ en < b
                · have t1 : (md : Int) < (en : Int) := by omega
                  have t2 : (en : Int) < (b : Int) := by omega
                  have HI3 := HIH.out md en b L wr (by omega) (by rw [HM2.out.1.len, H1.out.2.len]; exact HLs.out) h3 hb (sort_out HM2.out.1 (Nat.le_refl _) H1.out.1.2.2.1) (sort_out HM2.out.1 (by omega) H1.out.1.2.2.2.1) HS.out
                  rw [show L.length = N by rw [HM2.out.1.len, H1.out.2.len]; exact HLn.out] at HI3
                  go_wp2_with (go_at_call 126; (with_reducible refine HI3.mono ?_); rintro e w9 ⟨rfl, L3, M3, O3, S9⟩)
                  go_end0
                  exact ⟨rfl, L3, (H1.out.2.trans (HM2.out.1.mono (Nat.le_refl _) hmdb)).trans (M3.mono hamd (Nat.le_refl _)), mg_join H1.out.1.2.2.2.2 HM2.out.1 HM2.out.2 M3 O3, S9⟩
                · have HO3 : Hid (SortR L md b) := sort_whole (sort_out HM2.out.1 (Nat.le_refl _) H1.out.1.2.2.1) (sort_out HM2.out.1 (by omega) H1.out.1.2.2.2.1) (by omega) (by omega)
                  rcases (show ¬ md < en ∨ (md < en ∧ ¬ en < b) by omega) with h3a | ⟨h3a, h3b⟩
                  · have t1 : ¬ (md : Int) < (en : Int) := by omega
                    go_wp2_with fail
                    go_end0
                    exact ⟨rfl, L, H1.out.2.trans (HM2.out.1.mono (Nat.le_refl _) hmdb), mg_join H1.out.1.2.2.2.2 HM2.out.1 HM2.out.2 (Mv.refl _ _ _) HO3.out, HS.out⟩
                  · have t1 : (md : Int) < (en : Int) := by omega
                    have t2 : ¬ (en : Int) < (b : Int) := by omega
                    go_wp2_with fail
                    go_end0
                    exact ⟨rfl, L, H1.out.2.trans (HM2.out.1.mono (Nat.le_refl _) hmdb), mg_join H1.out.1.2.2.2.2 HM2.out.1 HM2.out.2 (Mv.refl _ _ _) HO3.out, HS.out⟩
              · have t3 : (a : Int) < (s : Int) := by omega
                have t4 : ¬ (s : Int) < (md : Int) := by omega
                by_cases h3 : md < en ∧ en < b
                · have t1 : (md : Int) < (en : Int) := by omega
                  have t2 : (en : Int) < (b : Int) := by omega
                  have HI3 := HIH.out md en b L wr (by omega) (by rw [HM2.out.1.len, H1.out.2.len]; exact HLs.out) h3 hb (sort_out HM2.out.1 (Nat.le_refl _) H1.out.1.2.2.1) (sort_out HM2.out.1 (by omega) H1.out.1.2.2.2.1) HS.out
                  rw [show L.length = N by rw [HM2.out.1.len, H1.out.2.len]; exact HLn.out] at HI3
                  go_wp2_with (go_at_call 126; (with_reducible refine HI3.mono ?_); rintro e w9 ⟨rfl, L3, M3, O3, S9⟩)
                  go_end0
                  exact ⟨rfl, L3, (H1.out.2.trans (HM2.out.1.mono (Nat.le_refl _) hmdb)).trans (M3.mono hamd (Nat.le_refl _)), mg_join H1.out.1.2.2.2.2 HM2.out.1 HM2.out.2 M3 O3, S9⟩
                · have HO3 : Hid (SortR L md b) := sort_whole (sort_out HM2.out.1 (Nat.le_refl _) H1.out.1.2.2.1) (sort_out HM2.out.1 (by omega) H1.out.1.2.2.2.1) (by omega) (by omega)
                  rcases (show ¬ md < en ∨ (md < en ∧ ¬ en < b) by omega) with h3a | ⟨h3a, h3b⟩
                  · have t1 : ¬ (md : Int) < (en : Int) := by omega
                    go_wp2_with fail
                    go_end0
                    exact ⟨rfl, L, H1.out.2.trans (HM2.out.1.mono (Nat.le_refl _) hmdb), mg_join H1.out.1.2.2.2.2 HM2.out.1 HM2.out.2 (Mv.refl _ _ _) HO3.out, HS.out⟩
                  · have t1 : (md : Int) < (en : Int) := by omega
                    have t2 : ¬ (en : Int) < (b : Int) := by omega
                    go_wp2_with fail
                    go_end0
                    exact ⟨rfl, L, H1.out.2.trans (HM2.out.1.mono (Nat.le_refl _) hmdb), mg_join H1.out.1.2.2.2.2 HM2.out.1 HM2.out.2 (Mv.refl _ _ _) HO3.out, HS.out⟩
  · have f8 : ¬ (md : Int) < (m : Int) := by omega
    go_enter FG, Tryz.ntmps126
    go_wp2_with fail
    go_loopw [20, 21] (fun vi vj wr => ∃ s r : Nat, vi = .int .i64 s ∧ vj = .int .i64 r ∧ a ≤ s ∧ s ≤ r ∧ r ≤ m ∧ Hid (∀ c, a ≤ c → c < s → (gE L c).T ≤ (gE L (n - 1 - c)).T) ∧ Hid (∀ c, r ≤ c → c < m → (gE L (n - 1 - c)).T < (gE L c).T) ∧ Hid (SWK enc k w0 blk 0 L.toArray wr)) (fun vi vj _ => (intOf vj).toNat - (intOf vi).toNat)
    case atStart => exact ⟨a, m, by go_num, by go_num, Nat.le_refl _, by omega, Nat.le_refl _, (fun x h1 h2 => by omega), (fun x h1 h2 => by omega), HS0⟩
    case round =>
      clear HS0 f0d f0e f1d f1e f2 f3 f4 f5 f6 f7 f8 hf0 hf1
      obtain ⟨s, r, rfl, rfl, hls, hsr, hrh, Hlo, Hhi, HS⟩ := hrel
      by_cases hlt : s < r
      · have hltz : (s : Int) < (r : Int) := by omega
        obtain ⟨h, hh⟩ : ∃ h, (s + r) / 2 = h := ⟨_, rfl⟩
        have w1h : IntKind.i64.wrap ((s : Int) + (r : Int)) = (s : Int) + (r : Int) := by rw [IntKind.wrap_i64]; omega
        have w2h : IntKind.u64.wrap ((s : Int) + (r : Int)) = ((s + r : Nat) : Int) := by rw [wrap_u64j]; omega
        have w3h : ((s : Int) + (r : Int)) / 2 = (h : Int) := by omega
        have w4h : IntKind.i64.wrap (h : Int) = (h : Int) := by rw [IntKind.wrap_i64]; omega
        have hh1 : s ≤ h ∧ h < r := by omega
        obtain ⟨p, hp⟩ : ∃ p, n - 1 - h = p := ⟨_, rfl⟩
        have hpm : m ≤ p ∧ p < b := by omega
        have hhm : a ≤ h ∧ h < m := by omega
        have w5 : IntKind.i64.wrap ((n : Int) - 1 - (h : Int)) = (p : Int) := by rw [IntKind.wrap_i64]; omega
        have bp : (p : Int) < (N : Int) := by omega
        have bh : (h : Int) < (N : Int) := by omega
        have HV : Hid (cfE (gE L p) (gE L h) < 0 ↔ (gE L p).T < (gE L h).T) := cfE_neg _ _
        by_cases hv : cfE (gE L p) (gE L h) < 0
        · have Hhi2 : Hid (∀ c, h ≤ c → c < m → (gE L (n - 1 - c)).T < (gE L c).T) := fun c q1 q2 => by
            have h3 := HV.out.1 hv
            have h4 := H0.out.1 h c (by omega) q1 (by omega)
            have h5 := H0.out.2 (n - 1 - c) p (by omega) (by omega) (by omega)
            omega
          clear HV
          have la := swJ_ld HS.out R HLs.out P p (by rw [HLn.out]; omega)
          have lb := swJ_ld HS.out R HLs.out P h (by rw [HLn.out]; omega)
          have hcm := swJ_cmp HS.out HC.out HLs.out (gE L p) (gE L h)
          have na := R.hk (gE L p)
          have nb := R.hk (gE L h)
          generalize enc (gE L p) = cI at la hcm na
          generalize enc (gE L h) = cJ at lb hcm nb
          generalize cfE (gE L p) (gE L h) = cv at hcm hv
          have hvd : decide (cv < 0) = true := decide_eq_true hv
          go_wp2_with fail
          go_quiet_grown (first | (go_at_fn gf; refine Calls.grown_of (hcm _ _)))
          have S2 : Hid (SWK enc k w0 blk 0 L.toArray (grow (wr.drewN nq) osq)) := HS.out.grown nq osq
          clear la lb hcm HS
          generalize grow (wr.drewN nq) osq = w2 at S2 ⊢
          go_wp2_with fail
          exact ⟨⟨s, h, rfl, rfl, hls, by omega, by omega, Hlo, Hhi2, S2⟩, by simp [intOf]; omega⟩
        · have Hlo2 : Hid (∀ c, a ≤ c → c < h + 1 → (gE L c).T ≤ (gE L (n - 1 - c)).T) := fun c q1 q2 => by
            have h3 : ¬ (gE L p).T < (gE L h).T := fun h => hv (HV.out.2 h)
            have h4 := H0.out.1 c h (by omega) (by omega) (by omega)
            have h5 := H0.out.2 p (n - 1 - c) (by omega) (by omega) (by omega)
            omega
          clear HV
          have la := swJ_ld HS.out R HLs.out P p (by rw [HLn.out]; omega)
          have lb := swJ_ld HS.out R HLs.out P h (by rw [HLn.out]; omega)
          have hcm := swJ_cmp HS.out HC.out HLs.out (gE L p) (gE L h)
          have na := R.hk (gE L p)
          have nb := R.hk (gE L h)
          generalize enc (gE L p) = cI at la hcm na
          generalize enc (gE L h) = cJ at lb hcm nb
          generalize cfE (gE L p) (gE L h) = cv at hcm hv
          have hvd : decide (cv < 0) = false := decide_eq_false hv
          go_wp2_with fail
          go_quiet_grown (first | (go_at_fn gf; refine Calls.grown_of (hcm _ _)))
          have S2 : Hid (SWK enc k w0 blk 0 L.toArray (grow (wr.drewN nq) osq)) := HS.out.grown nq osq
          clear la lb hcm HS
          generalize grow (wr.drewN nq) osq = w2 at S2 ⊢
          go_wp2_with fail
          exact ⟨⟨h + 1, r, by go_num, rfl, by omega, by omega, hrh, Hlo2, Hhi, S2⟩, by simp [intOf]; omega⟩
      · obtain rfl : s = r := by omega
        have hltz : ¬ (s : Int) < (s : Int) := by omega
        have HCut : Hid (Cut L a m b s) := by
          refine ⟨⟨by omega, by omega⟩, ⟨by omega, by omega⟩, ?_, ?_⟩
          · rcases (show s = a ∨ a < s by omega) with e | e
            · exact Or.inl e
            · exact Or.inr (Or.inr (by
                have := Hlo.out (s - 1) (by omega) (by omega)
                rw [show n - 1 - (s - 1) = (a + b) / 2 + m - s by omega] at this
                exact this))
          · rcases (show s = m ∨ s < m by omega) with e | e
            · exact Or.inl e
            · exact Or.inr (Or.inr (by
                have := Hhi.out s (by omega) (by omega)
                rw [show n - 1 - s = (a + b) / 2 + m - 1 - s by omega] at this
                exact this))
        obtain ⟨en, hen⟩ : ∃ en, n - s = en := ⟨_, rfl⟩
        have HSp : Hid (∀ L1, (∀ x, gE L1 x = rotF L s m en x) → SortR L1 a s ∧ SortR L1 s md ∧ SortR L1 md en ∧ SortR L1 en b ∧ ∀ i j, a ≤ i → i < md → md ≤ j → j < b → (gE L1 i).T ≤ (gE L1 j).T) := fun L1 g => by
          have he : (a + b) / 2 + m - s = en := by omega
          have := mg_split (L1 := L1) hab H0.out.1 H0.out.2 HCut.out (by rw [he]; exact g)
          rw [he, hmd] at this
          exact this
        have w9 : IntKind.i64.wrap ((n : Int) - (s : Int)) = (en : Int) := by rw [IntKind.wrap_i64]; omega
        have hs8 : s ≤ m ∧ s ≤ md ∧ a ≤ s ∧ m ≤ en ∧ en ≤ b ∧ md ≤ en ∧ en + s = md + m := by omega
        obtain ⟨z1, z2, z3, z4, z5, z6, z7⟩ := hs8
        clear Hlo Hhi HCut hen hls hrh
        by_cases h1 : s < m ∧ m < en
        · have t5 : (s : Int) < (m : Int) := by omega
          have t6 : (m : Int) < (en : Int) := by omega
          have HRo := HRot.out s en wr h1 (by omega) HS.out
          go_wp2_with fail
          refine HRo.mono ?_
          rintro e w7 ⟨rfl, L1, M1, G1, S7⟩
          have H1 : Hid ((SortR L1 a s ∧ SortR L1 s md ∧ SortR L1 md en ∧ SortR L1 en b ∧ ∀ i j, a ≤ i → i < md → md ≤ j → j < b → (gE L1 i).T ≤ (gE L1 j).T) ∧ Mv a b L L1) := ⟨HSp.out L1 G1, M1.mono (by omega) (by omega)⟩
          have HS7 : Hid (SWK enc k w0 blk 0 L1.toArray w7) := S7
          clear M1 G1 S7 HRo HS
          by_cases h2 : a < s ∧ s < md
          · have t3 : (a : Int) < (s : Int) := by omega
            have t4 : (s : Int) < (md : Int) := by omega
            have HI2 := HIH.out a s md L1 w7 (by omega) (by rw [H1.out.2.len]; exact HLs.out) h2 (by omega) H1.out.1.1 H1.out.1.2.1 HS7.out
            rw [show L1.length = N by rw [H1.out.2.len]; exact HLn.out] at HI2
            go_wp2_with fail
            refine HI2.mono ?_
            rintro e w8 ⟨rfl, L2, M2, O2, S8⟩
            have HM2 : Hid (Mv a md L1 L2 ∧ SortR L2 a md) := ⟨M2, O2⟩
            have HS8 : Hid (SWK enc k w0 blk 0 L2.toArray w8) := S8
            clear M2 O2 S8 HI2
            by_cases h3 : md < en ∧ en < b
            · have t1 : (md : Int) < (en : Int) := by omega
              have t2 : (en : Int) < (b : Int) := by omega
              have HI3 := HIH.out md en b L2 w8 (by omega) (by rw [HM2.out.1.len, H1.out.2.len]; exact HLs.out) h3 hb (sort_out HM2.out.1 (Nat.le_refl _) H1.out.1.2.2.1) (sort_out HM2.out.1 (by omega) H1.out.1.2.2.2.1) HS8.out
              rw [show L2.length = N by rw [HM2.out.1.len, H1.out.2.len]; exact HLn.out] at HI3
              go_wp2_with (go_at_call 126; (with_reducible refine HI3.mono ?_); rintro e w9 ⟨rfl, L3, M3, O3, S9⟩)
              go_end0
              exact ⟨rfl, L3, (H1.out.2.trans (HM2.out.1.mono (Nat.le_refl _) hmdb)).trans (M3.mono hamd (Nat.le_refl _)), mg_join H1.out.1.2.2.2.2 HM2.out.1 HM2.out.2 M3 O3, S9⟩
            · have HO3 : Hid (SortR L2 md b) := sort_whole (sort_out HM2.out.1 (Nat.le_refl _) H1.out.1.2.2.1) (sort_out HM2.out.1 (by omega) H1.out.1.2.2.2.1) (by omega) (by omega)
              rcases (show ¬ md < en ∨ (md < en ∧ ¬ en < b) by omega) with h3a | ⟨h3a, h3b⟩
              · have t1 : ¬ (md : Int) < (en : Int) := by omega
                go_wp2_with fail
                go_end0
                exact ⟨rfl, L2, H1.out.2.trans (HM2.out.1.mono (Nat.le_refl _) hmdb), mg_join H1.out.1.2.2.2.2 HM2.out.1 HM2.out.2 (Mv.refl _ _ _) HO3.out, HS8.out⟩
              · have t1 : (md : Int) < (en : Int) := by omega
                have t2 : ¬ (en : Int) < (b : Int) := by omega
                go_wp2_with fail
                go_end0
                exact ⟨rfl, L2, H1.out.2.trans (HM2.out.1.mono (Nat.le_refl _) hmdb), mg_join H1.out.1.2.2.2.2 HM2.out.1 HM2.out.2 (Mv.refl _ _ _) HO3.out, HS8.out⟩
          · have HM2 : Hid (Mv a md L1 L1 ∧ SortR L1 a md) := ⟨Mv.refl _ _ _, sort_whole H1.out.1.1 H1.out.1.2.1 (by omega) (by omega)⟩
            rcases (show ¬ a < s ∨ (a < s ∧ ¬ s < md) by omega) with h2a | ⟨h2a, h2b⟩
            · have t3 : ¬ (a : Int) < (s : Int) := by omega
              by_cases h3 : md < en ∧ en < b
              · have t1 : (md : Int) < (en : Int) := by omega
                have t2 : (en : Int) < (b : Int) := by omega
                have HI3 := HIH.out md en b L1 w7 (by omega) (by rw [HM2.out.1.len, H1.out.2.len]; exact HLs.out) h3 hb (sort_out HM2.out.1 (Nat.le_refl _) H1.out.1.2.2.1) (sort_out HM2.out.1 (by omega) H1.out.1.2.2.2.1) HS7.out
                rw [show L1.length = N by rw [HM2.out.1.len, H1.out.2.len]; exact HLn.out] at HI3
                go_wp2_with (go_at_call 126; (with_reducible refine HI3.mono ?_); rintro e w9 ⟨rfl, L3, M3, O3, S9⟩)
                go_end0
                exact ⟨rfl, L3, (H1.out.2.trans (HM2.out.1.mono (Nat.le_refl _) hmdb)).trans (M3.mono hamd (Nat.le_refl _)), mg_join H1.out.1.2.2.2.2 HM2.out.1 HM2.out.2 M3 O3, S9⟩
              · have HO3 : Hid (SortR L1 md b) := sort_whole (sort_out HM2.out.1 (Nat.le_refl _) H1.out.1.2.2.1) (sort_out HM2.out.1 (by omega) H1.out.1.2.2.2.1) (by omega) (by omega)
                rcases (show ¬ md < en ∨ (md < en ∧ ¬ en < b) by omega) with h3a | ⟨h3a, h3b⟩
                · have t1 : ¬ (md : Int) < (en : Int) := by omega
                  go_wp2_with fail
                  go_end0
                  exact ⟨rfl, L1, H1.out.2.trans (HM2.out.1.mono (Nat.le_refl _) hmdb), mg_join H1.out.1.2.2.2.2 HM2.out.1 HM2.out.2 (Mv.refl _ _ _) HO3.out, HS7.out⟩
                · have t1 : (md : Int) < (en : Int) := by omega
                  have t2 : ¬ (en : Int) < (b : Int) := by omega
                  go_wp2_with fail
                  go_end0
                  exact ⟨rfl, L1, H1.out.2.trans (HM2.out.1.mono (Nat.le_refl _) hmdb), mg_join H1.out.1.2.2.2.2 HM2.out.1 HM2.out.2 (Mv.refl _ _ _) HO3.out, HS7.out⟩
            · have t3 : (a : Int) < (s : Int) := by omega
              have t4 : ¬ (s : Int) < (md : Int) := by omega
              by_cases h3 : md < en ∧ en < b
              · have t1 : (md : Int) < (en : Int) := by omega
                have t2 : (en : Int) < (b : Int) := by omega
                have HI3 := HIH.out md en b L1 w7 (by omega) (by rw [HM2.out.1.len, H1.out.2.len]; exact HLs.out) h3 hb (sort_out HM2.out.1 (Nat.le_refl _) H1.out.1.2.2.1) (sort_out HM2.out.1 (by omega) H1.out.1.2.2.2.1) HS7.out
                rw [show L1.length = N by rw [HM2.out.1.len, H1.out.2.len]; exact HLn.out] at HI3
                go_wp2_with (go_at_call 126; (with_reducible refine HI3.mono ?_); rintro e w9 ⟨rfl, L3, M3, O3, S9⟩)
                go_end0
                exact ⟨rfl, L3, (H1.out.2.trans (HM2.out.1.mono (Nat.le_refl _) hmdb)).trans (M3.mono hamd (Nat.le_refl _)), mg_join H1.out.1.2.2.2.2 HM2.out.1 HM2.out.2 M3 O3, S9⟩
              · have HO3 : Hid (SortR L1 md b) := sort_whole (sort_out HM2.out.1 (Nat.le_refl _) H1.out.1.2.2.1) (sort_out HM2.out.1 (by omega) H1.out.1.2.2.2.1) (by omega) (by omega)
                rcases (show ¬ md < en ∨ (md < en ∧ ¬ en < b) by omega) with h3a | ⟨h3a, h3b⟩
                · have t1 : ¬ (md : Int) < (en : Int) := by omega
                  go_wp2_with fail
                  go_end0
                  exact ⟨rfl, L1, H1.out.2.trans (HM2.out.1.mono (Nat.le_refl _) hmdb), mg_join H1.out.1.2.2.2.2 HM2.out.1 HM2.out.2 (Mv.refl _ _ _) HO3.out, HS7.out⟩
                · have t1 : (md : Int) < (en : Int) := by omega
                  have t2 : ¬ (en : Int) < (b : Int) := by omega
                  go_wp2_with fail
                  go_end0
                  exact ⟨rfl, L1, H1.out.2.trans (HM2.out.1.mono (Nat.le_refl _) hmdb), mg_join H1.out.1.2.2.2.2 HM2.out.1 HM2.out.2 (Mv.refl _ _ _) HO3.out, HS7.out⟩
        · have H1 : Hid ((SortR L a s ∧ SortR L s md ∧ SortR L md en ∧ SortR L en b ∧ ∀ i j, a ≤ i → i < md → md ≤ j → j < b → (gE L i).T ≤ (gE L j).T) ∧ Mv a b L L) := ⟨HSp.out L (fun x => by
            rcases (show s = m ∨ m = en by omega) with e | e
            · rw [e]; exact rotF_none1.symm
            · rw [← e]; exact rotF_none2.symm), Mv.refl _ _ _⟩
          rcases (show ¬ s < m ∨ (s < m ∧ ¬ m < en) by omega) with h1a | ⟨h1a, h1b⟩
          · have t5 : ¬ (s : Int) < (m : Int) := by omega
            by_cases h2 : a < s ∧ s < md
            · have t3 : (a : Int) < (s : Int) := by omega
              have t4 : (s : Int) < (md : Int) := by omega
              have HI2 := HIH.out a s md L wr (by omega) (by rw [H1.out.2.len]; exact HLs.out) h2 (by omega) H1.out.1.1 H1.out.1.2.1 HS.out
              rw [show L.length = N by rw [H1.out.2.len]; exact HLn.out] at HI2
              go_wp2_with fail
              refine HI2.mono ?_
              rintro e w8 ⟨rfl, L2, M2, O2, S8⟩
              have HM2 : Hid (Mv a md L L2 ∧ SortR L2 a md) := ⟨M2, O2⟩
              have HS8 : Hid (SWK enc k w0 blk 0 L2.toArray w8) := S8
              clear M2 O2 S8 HI2
              by_cases h3 : md < en ∧ en < b
              · have t1 : (md : Int) < (en : Int) := by omega
                have t2 : (en : Int) < (b : Int) := by omega
                have HI3 := HIH.out md en b L2 w8 (by omega) (by rw [HM2.out.1.len, H1.out.2.len]; exact HLs.out) h3 hb (sort_out HM2.out.1 (Nat.le_refl _) H1.out.1.2.2.1) (sort_out HM2.out.1 (by omega) H1.out.1.2.2.2.1) HS8.out
                rw [show L2.length = N by rw [HM2.out.1.len, H1.out.2.len]; exact HLn.out] at HI3
                go_wp2_with (go_at_call 126; (with_reducible refine HI3.mono ?_); rintro e w9 ⟨rfl, L3, M3, O3, S9⟩)
                go_end0
                exact ⟨rfl, L3, (H1.out.2.trans (HM2.out.1.mono (Nat.le_refl _) hmdb)).trans (M3.mono hamd (Nat.le_refl _)), mg_join H1.out.1.2.2.2.2 HM2.out.1 HM2.out.2 M3 O3, S9⟩
              · have HO3 : Hid (SortR L2 md b) := sort_whole (sort_out HM2.out.1 (Nat.le_refl _) H1.out.1.2.2.1) (sort_out HM2.out.1 (by omega) H1.out.1.2.2.2.1) (by omega) (by omega)
                rcases (show ¬ md < en ∨ (md < en ∧ ¬ en < b) by omega) with h3a | ⟨h3a, h3b⟩
                · have t1 : ¬ (md : Int) < (en : Int) := by omega
                  go_wp2_with fail
                  go_end0
                  exact ⟨rfl, L2, H1.out.2.trans (HM2.out.1.mono (Nat.le_refl _) hmdb), mg_join H1.out.1.2.2.2.2 HM2.out.1 HM2.out.2 (Mv.refl _ _ _) HO3.out, HS8.out⟩
                · have t1 : (md : Int) < (en : Int) := by omega
                  have t2 : ¬ (en : Int) < (b : Int) := by omega
                  go_wp2_with fail
                  go_end0
                  exact ⟨rfl, L2, H1.out.2.trans (HM2.out.1.mono (Nat.le_refl _) hmdb), mg_join H1.out.1.2.2.2.2 HM2.out.1 HM2.out.2 (Mv.refl _ _ _) HO3.out, HS8.out⟩
            · have HM2 : Hid (Mv a md L L ∧ SortR L a md) := ⟨Mv.refl _ _ _, sort_whole H1.out.1.1 H1.out.1.2.1 (by omega) (by omega)⟩
              rcases (show ¬ a < s ∨ (a < s ∧ ¬ s < md) by omega) with h2a | ⟨h2a, h2b⟩
              · have t3 : ¬ (a : Int) < (s : Int) := by omega
                by_cases h3 : md < en ∧ en < b
                · have t1 : (md : Int) < (en : Int) := by omega
                  have t2 : (en : Int) < (b : Int) := by omega
                  have HI3 := HIH.out md en b L wr (by omega) (by rw [HM2.out.1.len, H1.out.2.len]; exact HLs.out) h3 hb (sort_out HM2.out.1 (Nat.le_refl _) H1.out.1.2.2.1) (sort_out HM2.out.1 (by omega) H1.out.1.2.2.2.1) HS.out
                  rw [show L.length = N by rw [HM2.out.1.len, H1.out.2.len]; exact HLn.out] at HI3
                  go_wp2_with (go_at_call 126; (with_reducible refine HI3.mono ?_); rintro e w9 ⟨rfl, L3, M3, O3, S9⟩)
                  go_end0
                  exact ⟨rfl, L3, (H1.out.2.trans (HM2.out.1.mono (Nat.le_refl _) hmdb)).trans (M3.mono hamd (Nat.le_refl _)), mg_join H1.out.1.2.2.2.2 HM2.out.1 HM2.out.2 M3 O3, S9⟩
                · have HO3 : Hid (SortR L md b) := sort_whole (sort_out HM2.out.1 (Nat.le_refl _) H1.out.1.2.2.1) (sort_out HM2.out.1 (by omega) H1.out.1.2.2.2.1) (by omega) (by omega)
                  rcases (show ¬ md < en ∨ (md < en ∧ ¬ en < b) by omega) with h3a | ⟨h3a, h3b⟩
                  · have t1 : ¬ (md : Int) < (en : Int) := by omega
                    go_wp2_with fail
                    go_end0
                    exact ⟨rfl, L, H1.out.2.trans (HM2.out.1.mono (Nat.le_refl _) hmdb), mg_join H1.out.1.2.2.2.2 HM2.out.1 HM2.out.2 (Mv.refl _ _ _) HO3.out, HS.out⟩
                  · have t1 : (md : Int) < (en : Int) := by omega
                    have t2 : ¬ (en : Int) < (b : Int) := by omega
                    go_wp2_with fail
                    go_end0
                    exact ⟨rfl, L, H1.out.2.trans (HM2.out.1.mono (Nat.le_refl _) hmdb), mg_join H1.out.1.2.2.2.2 HM2.out.1 HM2.out.2 (Mv.refl _ _ _) HO3.out, HS.out⟩
              · have t3 : (a : Int) < (s : Int) := by omega
                have t4 : ¬ (s : Int) < (md : Int) := by omega
                by_cases h3 : md < en ∧ en < b
                · have t1 : (md : Int) < (en : Int) := by omega
                  have t2 : (en : Int) < (b : Int) := by omega
                  have HI3 := HIH.out md en b L wr (by omega) (by rw [HM2.out.1.len, H1.out.2.len]; exact HLs.out) h3 hb (sort_out HM2.out.1 (Nat.le_refl _) H1.out.1.2.2.1) (sort_out HM2.out.1 (by omega) H1.out.1.2.2.2.1) HS.out
                  rw [show L.length = N by rw [HM2.out.1.len, H1.out.2.len]; exact HLn.out] at HI3
                  go_wp2_with (go_at_call 126; (with_reducible refine HI3.mono ?_); rintro e w9 ⟨rfl, L3, M3, O3, S9⟩)
                  go_end0
                  exact ⟨rfl, L3, (H1.out.2.trans (HM2.out.1.mono (Nat.le_refl _) hmdb)).trans (M3.mono hamd (Nat.le_refl _)), mg_join H1.out.1.2.2.2.2 HM2.out.1 HM2.out.2 M3 O3, S9⟩
                · have HO3 : Hid (SortR L md b) := sort_whole (sort_out HM2.out.1 (Nat.le_refl _) H1.out.1.2.2.1) (sort_out HM2.out.1 (by omega) H1.out.1.2.2.2.1) (by omega) (by omega)
                  rcases (show ¬ md < en ∨ (md < en ∧ ¬ en < b) by omega) with h3a | ⟨h3a, h3b⟩
                  · have t1 : ¬ (md : Int) < (en : Int) := by omega
                    go_wp2_with fail
                    go_end0
                    exact ⟨rfl, L, H1.out.2.trans (HM2.out.1.mono (Nat.le_refl _) hmdb), mg_join H1.out.1.2.2.2.2 HM2.out.1 HM2.out.2 (Mv.refl _ _ _) HO3.out, HS.out⟩
                  · have t1 : (md : Int) < (en : Int) := by omega
                    have t2 : ¬ (en : Int) < (b : Int) := by omega
                    go_wp2_with fail
                    go_end0
                    exact ⟨rfl, L, H1.out.2.trans (HM2.out.1.mono (Nat.le_refl _) hmdb), mg_join H1.out.1.2.2.2.2 HM2.out.1 HM2.out.2 (Mv.refl _ _ _) HO3.out, HS.out⟩
          · have t5 : (s : Int) < (m : Int) := by omega
            have t6 : ¬ (m : Int) < (en : Int) := by omega
            by_cases h2 : a < s ∧ s < md
            · have t3 : (a : Int) < (s : Int) := by omega
              have t4 : (s : Int) < (md : Int) := by omega
              have HI2 := HIH.out a s md L wr (by omega) (by rw [H1.out.2.len]; exact HLs.out) h2 (by omega) H1.out.1.1 H1.out.1.2.1 HS.out
              rw [show L.length = N by rw [H1.out.2.len]; exact HLn.out] at HI2
              go_wp2_with fail
              refine HI2.mono ?_
              rintro e w8 ⟨rfl, L2, M2, O2, S8⟩
              have HM2 : Hid (Mv a md L L2 ∧ SortR L2 a md) := ⟨M2, O2⟩
              have HS8 : Hid (SWK enc k w0 blk 0 L2.toArray w8) := S8
              clear M2 O2 S8 HI2
              by_cases h3 : md < en ∧ en < b
              · have t1 : (md : Int) < (en : Int) := by omega
                have t2 : (en : Int) < (b : Int) := by omega
                have HI3 := HIH.out md en b L2 w8 (by omega) (by rw [HM2.out.1.len, H1.out.2.len]; exact HLs.out) h3 hb (sort_out HM2.out.1 (Nat.le_refl _) H1.out.1.2.2.1) (sort_out HM2.out.1 (by omega) H1.out.1.2.2.2.1) HS8.out
                rw [show L2.length = N by rw [HM2.out.1.len, H1.out.2.len]; exact HLn.out] at HI3
                go_wp2_with (go_at_call 126; (with_reducible refine HI3.mono ?_); rintro e w9 ⟨rfl, L3, M3, O3, S9⟩)
                go_end0
                exact ⟨rfl, L3, (H1.out.2.trans (HM2.out.1.mono (Nat.le_refl _) hmdb)).trans (M3.mono hamd (Nat.le_refl _)), mg_join H1.out.1.2.2.2.2 HM2.out.1 HM2.out.2 M3 O3, S9⟩
              · have HO3 : Hid (SortR L2 md b) := sort_whole (sort_out HM2.out.1 (Nat.le_refl _) H1.out.1.2.2.1) (sort_out HM2.out.1 (by omega) H1.out.1.2.2.2.1) (by omega) (by omega)
                rcases (show ¬ md < en ∨ (md < en ∧ ¬ en < b) by omega) with h3a | ⟨h3a, h3b⟩
                · have t1 : ¬ (md : Int) < (en : Int) := by omega
                  go_wp2_with fail
                  go_end0
                  exact ⟨rfl, L2, H1.out.2.trans (HM2.out.1.mono (Nat.le_refl _) hmdb), mg_join H1.out.1.2.2.2.2 HM2.out.1 HM2.out.2 (Mv.refl _ _ _) HO3.out, HS8.out⟩
                · have t1 : (md : Int) < (en : Int) := by omega
                  have t2 : ¬ (en : Int) < (b : Int) := by omega
                  go_wp2_with fail
                  go_end0
                  exact ⟨rfl, L2, H1.out.2.trans (HM2.out.1.mono (Nat.le_refl _) hmdb), mg_join H1.out.1.2.2.2.2 HM2.out.1 HM2.out.2 (Mv.refl _ _ _) HO3.out, HS8.out⟩
            · have HM2 : Hid (Mv a md L L ∧ SortR L a md) := ⟨Mv.refl _ _ _, sort_whole H1.out.1.1 H1.out.1.2.1 (by omega) (by omega)⟩
              rcases (show ¬ a < s ∨ (a < s ∧ ¬ s < md) by omega) with h2a | ⟨h2a, h2b⟩
              · have t3 : ¬ (a : Int) < (s : Int) := by omega
                by_cases h3 : md < en ∧ en < b
                · have t1 : (md : Int) < (en : Int) := by omega
                  have t2 : (en : Int) < (b : Int) := by omega
                  have HI3 := HIH.out md en b L wr (by omega) (by rw [HM2.out.1.len, H1.out.2.len]; exact HLs.out) h3 hb (sort_out HM2.out.1 (Nat.le_refl _) H1.out.1.2.2.1) (sort_out HM2.out.1 (by omega) H1.out.1.2.2.2.1) HS.out
                  rw [show L.length = N by rw [HM2.out.1.len, H1.out.2.len]; exact HLn.out] at HI3
                  go_wp2_with (go_at_call 126; (with_reducible refine HI3.mono ?_); rintro e w9 ⟨rfl, L3, M3, O3, S9⟩)
                  go_end0
                  exact ⟨rfl, L3, (H1.out.2.trans (HM2.out.1.mono (Nat.le_refl _) hmdb)).trans (M3.mono hamd (Nat.le_refl _)), mg_join H1.out.1.2.2.2.2 HM2.out.1 HM2.out.2 M3 O3, S9⟩
                · have HO3 : Hid (SortR L md b) := sort_whole (sort_out HM2.out.1 (Nat.le_refl _) H1.out.1.2.2.1) (sort_out HM2.out.1 (by omega) H1.out.1.2.2.2.1) (by omega) (by omega)
                  rcases (show ¬ md < en ∨ (md < en ∧ ¬ en < b) by omega) with h3a | ⟨h3a, h3b⟩
                  · have t1 : ¬ (md : Int) < (en : Int) := by omega
                    go_wp2_with fail
                    go_end0
                    exact ⟨rfl, L, H1.out.2.trans (HM2.out.1.mono (Nat.le_refl _) hmdb), mg_join H1.out.1.2.2.2.2 HM2.out.1 HM2.out.2 (Mv.refl _ _ _) HO3.out, HS.out⟩
                  · have t1 : (md : Int) < (en : Int) := by omega
                    have t2 : ¬ (en : Int) < (b : Int) := by omega
                    go_wp2_with fail
                    go_end0
                    exact ⟨rfl, L, H1.out.2.trans (HM2.out.1.mono (Nat.le_refl _) hmdb), mg_join H1.out.1.2.2.2.2 HM2.out.1 HM2.out.2 (Mv.refl _ _ _) HO3.out, HS.out⟩
              · have t3 : (a : Int) < (s : Int) := by omega
                have t4 : ¬ (s : Int) < (md : Int) := by omega
                by_cases h3 : md < en ∧ en < b
                · have t1 : (md : Int) < (en : Int) := by omega
                  have t2 : (en : Int) < (b : Int) := by omega
                  have HI3 := HIH.out md en b L wr (by omega) (by rw [HM2.out.1.len, H1.out.2.len]; exact HLs.out) h3 hb (sort_out HM2.out.1 (Nat.le_refl _) H1.out.1.2.2.1) (sort_out HM2.out.1 (by omega) H1.out.1.2.2.2.1) HS.out
                  rw [show L.length = N by rw [HM2.out.1.len, H1.out.2.len]; exact HLn.out] at HI3
                  go_wp2_with (go_at_call 126; (with_reducible refine HI3.mono ?_); rintro e w9 ⟨rfl, L3, M3, O3, S9⟩)
                  go_end0
                  exact ⟨rfl, L3, (H1.out.2.trans (HM2.out.1.mono (Nat.le_refl _) hmdb)).trans (M3.mono hamd (Nat.le_refl _)), mg_join H1.out.1.2.2.2.2 HM2.out.1 HM2.out.2 M3 O3, S9⟩
                · have HO3 : Hid (SortR L md b) := sort_whole (sort_out HM2.out.1 (Nat.le_refl _) H1.out.1.2.2.1) (sort_out HM2.out.1 (by omega) H1.out.1.2.2.2.1) (by omega) (by omega)
                  rcases (show ¬ md < en ∨ (md < en ∧ ¬ en < b) by omega) with h3a | ⟨h3a, h3b⟩
                  · have t1 : ¬ (md : Int) < (en : Int) := by omega
                    go_wp2_with fail
                    go_end0
                    exact ⟨rfl, L, H1.out.2.trans (HM2.out.1.mono (Nat.le_refl _) hmdb), mg_join H1.out.1.2.2.2.2 HM2.out.1 HM2.out.2 (Mv.refl _ _ _) HO3.out, HS.out⟩
                  · have t1 : (md : Int) < (en : Int) := by omega
                    have t2 : ¬ (en : Int) < (b : Int) := by omega
                    go_wp2_with fail
                    go_end0
                    exact ⟨rfl, L, H1.out.2.trans (HM2.out.1.mono (Nat.le_refl _) hmdb), mg_join H1.out.1.2.2.2.2 HM2.out.1 HM2.out.2 (Mv.refl _ _ _) HO3.out, HS.out⟩
end Go.Proofs.YtigegdelhpdlhaaGreatDoor

/- Layer 18: two sorted stretches of a row of entries become one: the library's symMerge. (By jsym.py.) -/
namespace Go.Proofs.YtigegdelhpdlhaaGreatDoor
open Go.RowKit QP Go.Sort Go.Shelf Go.Lib


theorem jsym_gen {P : Program} {k : Nat} (Q : PJ P k) (U : PU P) (FG : P.funcs[126]? = some Tryz.f126) (enc : Er → List Value) (gf : Nat) (eg : ∀ args w, (callFunc gf args).run P w = .ok (.enter gf args) w) (w0 : World) (blk cap : Nat) (L0 : List Er) (R : Go.Proofs.RowK enc k w0 blk 0 L0.toArray) (hC : CmpLays P gf #[] enc k cfE blk 0 L0.length w0) (FR : P.funcs[150]? = some Tryz.f150) (FS : P.funcs[176]? = some Tryz.f176) (h1000 : L0.length ≤ 1000) : ∀ (D a m b : Nat) (L : List Er) (W : World), b - a ≤ D → L.length = L0.length → (a < m ∧ m < b) → b ≤ L0.length → SortR L a m → SortR L m b → SWK enc k w0 blk 0 L.toArray W →
      Calls P 126 #[.slice (some ⟨blk, 0, none⟩) L.length cap, .int .i64 (a : Int), .int .i64 (m : Int), .int .i64 (b : Int), .func (.func gf) #[] #[]] W fun e w' => e = .returned (.tuple #[]) ∧ ∃ L', Mv a b L L' ∧ SortR L' a b ∧ SWK enc k w0 blk 0 L'.toArray w'
  | 0, a, m, b, L, W, h, _, hab, _, _, _, _ => by omega
  | D + 1, a, m, b, L, W, h, hs, hab, hb, s1, s2, S => by
    by_cases h1 : m - a = 1
    · exact jsym_front Q U FG enc gf eg w0 blk cap L0 R hC a m b L W hs hab (by omega) (by omega) s2 S h1
    · by_cases h2 : b - m = 1
      · exact jsym_back Q U FG enc gf eg w0 blk cap L0 R hC a m b L W hs hab (by omega) (by omega) s1 S h1 h2
      · exact jsym_long Q U FG enc gf eg w0 blk cap L0 R hC FR FS a m b (fun a' m' b' M u q1 q2 q3 q4 q5 q6 q7 => jsym_gen Q U FG enc gf eg w0 blk cap L0 R hC FR FS h1000 D a' m' b' M u (by omega) q2 q3 q4 q5 q6 q7) L W hs hab (by omega) (by omega) s1 s2 S h1 h2
end Go.Proofs.YtigegdelhpdlhaaGreatDoor
