import Derived.Test.YtigegdelhpdlhaaGreatDoorJEntryJ
import Derived.Test.YtigegdelhpdlhaaGreatDoorJRotLJ
/- Layer 18: among; Waiting. -/
namespace Go.Proofs.YtigegdelhpdlhaaGreatDoor
open Go.RowKit QP

theorem among_num (x n : Int) (_hn : 1 ≤ n) : (x.tmod n + n) % n = x % n := by
  have h3 : x.tmod n = x % n ∨ x.tmod n = x % n - n := by
    rw [Int.tmod_eq_emod]
    split
    · left; omega
    · right; omega
  rcases h3 with e | e
  · rw [e, Int.add_emod_right, Int.emod_emod]
  · rw [e, show x % n - n + n = x % n from by omega, Int.emod_emod]

set_option maxHeartbeats 400000 in
theorem among_any (x n : Int) (w : World) (hn : 1 ≤ n) (hn2 : n ≤ 1000) :
    Calls Tryz.prog 13 #[.int .i64 x, .int .i64 n] w fun e w' => e = .returned (.int .i64 (x % n)) ∧ w = w' := by
  have hl : -n < x.tmod n ∧ x.tmod n < n := ⟨Int.lt_tmod_of_pos x (by omega), Int.tmod_lt_of_pos x (by omega)⟩
  have h1 := hl.1
  have h2 := hl.2
  have HN : Hid ((x.tmod n + n) % n = x % n) := among_num x n hn
  have hz : (n == 0) = false := by rw [beq_eq_false_iff_ne]; omega
  clear hl
  go_enter Tryz.func13, Tryz.ntmps13
  go_wp2
  go_ret
  exact ⟨ret_int HN.out, rfl⟩

set_option maxRecDepth 100000 in
set_option maxHeartbeats 1000000 in
theorem cWaiting {t k : ByteArray} {l d : Nat} {s : Dk.Dsk} {L : Lg} {w : World} {F : Nat → Prop} (h : LD t k l d s L w F) (i : Nat) (wk : Wk) (hwk : L.ws[i]? = some wk) :
    Calls Tryz.prog 26 #[.pointer (some ⟨l, 0, none⟩), .int .i64 (i : Int)] w fun r w' => r = .returned (.tuple #[.int .i64 (wk.1.length : Int), .int .i64 0]) ∧ Goes (LD t k l d s L) w w' F := by
  have hmf : ∀ (fn : Fn) (first cap : Array Value) (w : World), (Instr.makeFunc fn first cap).run Tryz.prog w = .ok (.func fn first cap) w := fun _ _ _ _ => rfl
  obtain ⟨q, hq⟩ : ∃ q, w.heap.size = q := ⟨_, rfl⟩
  obtain ⟨wT, hwT⟩ : ∃ u, (w.alloc (logO l)).alloc (numO (i : Int)) = u := ⟨_, rfl⟩
  have b1 : Below w.heap.size w (w.alloc (logO l)) := (Below.refl _ _).alloc (Nat.le_refl _) _
  have b2 := b1.alloc b1.size (numO (i : Int))
  have hn0 := (Below.heap_alloc _ (numO (i : Int)) w.heap.size (by simp)).trans (heap_new w (logO l))
  have hn1 := heap_new (w.alloc (logO l)) (numO (i : Int))
  rw [World.size_alloc, hq] at hn1
  rw [hq] at hn0
  rw [hwT] at hn0 hn1 b2
  have hbT : Below w.heap.size w wT := b2
  obtain ⟨N, hN⟩ : ∃ N, wk.1.length = N := ⟨_, rfl⟩
  rw [hN]
  have HD : Hid (Calls Tryz.prog 30 #[.func (.func 52) #[] #[.pointer (some ⟨q, 0, none⟩), .pointer (some ⟨q + 1, 0, none⟩)]] wT fun r w' => r = .returned (.tuple #[.int .i64 (N : Int), .int .i64 0]) ∧ Goes (LD t k l d s L) wT w' F) := by
    refine toldIA_ok (LD.res t k l d s L) 52 _ _ (N : Int) wT (fun j hj => Nat.lt_of_lt_of_le (h.low j hj) hbT.size) (enters_of Tryz.func52 (by kernel_rfl) rfl _) fun u hu => ?_
    have hu' := h.below (hbT.trans (hu.mono hbT.size))
    have HG : Hid (Goes (LD t k l d s L) u u F) := Goes.stay hu'
    obtain ⟨A, B, _, ⟨b, vs, hG, _⟩, _, _, _, _⟩ := hu'
    have hi : i < L.ws.length := (List.getElem?_eq_some_iff.1 hwk).1
    have hv : vs[i]? = some (vs[i]'(by rw [hG.len]; exact hi)) := List.getElem?_eq_getElem _
    obtain ⟨c0, _⟩ := hG.wk hv hwk
    obtain ⟨a, m, e⟩ := row_shapeJ (hG.own i _ _ hv hwk)
    rw [e, hN] at c0
    have HWk : Hid (Calls Tryz.prog 53 #[.pointer (some ⟨l, 0, none⟩), .int .i64 (i : Int)] u fun e w' => e = .returned (.pointer (some ⟨b, i * 2, none⟩)) ∧ u = w') := jworker_any l d b L.ws.length i _ _ u hG.top hi
    have h0 := (hu.block _ (lt_of hn0)).trans hn0
    have h1 := (hu.block _ (lt_of hn1)).trans hn1
    have d0 : u.cell? ⟨q, 0, none⟩ = some (.pointer (some ⟨l, 0, none⟩)) := by rw [cell_of h0]; rfl
    have d1 : u.cell? ⟨q + 1, 0, none⟩ = some (.int .i64 (i : Int)) := by rw [cell_of h1]; rfl
    clear h hn0 hn1 h0 h1 hwT hbT b1 b2 hu hv e hwk hG
    go_enter Tryz.func52, Tryz.ntmps52
    go_wp2_with (go_at_call 53; (with_reducible refine HWk.out.mono ?_); rintro e w1 ⟨rfl, rfl⟩)
    go_ret
    exact ⟨rfl, HG.out⟩
  have HW : Hid ((w.alloc (logO l)).alloc (numO (i : Int)) = wT) := hwT
  have HB : Hid (Below w.heap.size w wT) := hbT
  clear h hn0 hn1 hbT hwT b1 b2 hwk hN
  go_enter Tryz.func26, Tryz.ntmps26
  go_wp2_with fail
  rw [HW.out]
  refine HD.out.mono ?_
  rintro r w2 ⟨rfl, hg⟩
  go_wp2_with fail
  go_returns
  exact ⟨rfl, hg.after HB.out⟩
end Go.Proofs.YtigegdelhpdlhaaGreatDoor

/- Layer 18: WalRots: entries are added, flushed, marked; a byte of the file is another one; Load finds it. (By jrots.py.) -/
namespace Go.Proofs.YtigegdelhpdlhaaGreatDoor
open Go.RowKit QP

theorem Stand.forget0 {t k : ByteArray} {l d : Nat} {s : Dk.Dsk} {L : Lg} {w wr : World} (h : Stand (LD t k l d s L) w wr []) : Stand (DiskI d s) w wr [] := by
  obtain ⟨F, ⟨A, B, hD, _, _, hAF, _, _⟩, h2, _, _, h5⟩ := h
  exact Stand.start hD (fun j hj => h2 j (hAF j hj)) h5
theorem rots_next (ep i : Nat) : tidN ep i < tidN ep (i + 1) := by
  unfold tidN
  omega
theorem logs_name : (logB 0 0) = ⟨#[108, 111, 103, 46, 48, 46, 48]⟩ := by decide +kernel
theorem logs_small : (logB 0 0).size ≤ maxLen := by decide +kernel
theorem keys_rots : Dk.insN epochB.data.toList (Dk.insN (logB 0 0).data.toList []) = [epochB.data.toList, (logB 0 0).data.toList] := by decide +kernel
/-- a byte that is another one -/
theorem xor_ne8 {x y : UInt8} (h : y ≠ 0) : x ^^^ y ≠ x := fun e => h (by
  have h1 : x ^^^ (x ^^^ y) = x ^^^ x := by rw [e]
  rw [← UInt8.xor_assoc, UInt8.xor_self, UInt8.zero_xor] at h1
  exact h1)
abbrev wkF0r : List UInt8 → List (Nat × Nat) := fun _ => []

set_option maxRecDepth 100000 in
set_option maxHeartbeats 16000000 in
theorem rots_walk (many at0 dB : Int) (w : World) (hb0 : 0 ≤ dB) (hb1 : dB < 256) : Calls Tryz.prog 4 #[.int .i64 many, .int .i64 at0, .int .u8 dB] w fun e w' => e = .returned (.bool true) ∧ Below w.heap.size w w' := by
  obtain ⟨r, hr, hr2⟩ : ∃ r : Nat, many % 6 = (r : Int) ∧ r < 6 := ⟨(many % 6).toNat, by omega, by omega⟩
  obtain ⟨n, hn⟩ : ∃ n, r + 1 = n := ⟨_, rfl⟩
  obtain ⟨J, hJ, hJ2⟩ : ∃ J : Nat, at0 % (n : Int) = (J : Int) ∧ J < n := ⟨(at0 % (n : Int)).toNat, by have := Int.emod_nonneg at0 (show (n : Int) ≠ 0 by omega); omega, by have := Int.emod_lt_of_pos at0 (show (0 : Int) < n by omega); have := Int.emod_nonneg at0 (show (n : Int) ≠ 0 by omega); omega⟩
  obtain ⟨I, hI, hI2⟩ : ∃ I : Nat, at0 % 57 = (I : Int) ∧ I < 57 := ⟨(at0 % 57).toNat, by omega, by omega⟩
  obtain ⟨y, hy, hd⟩ : ∃ y : UInt8, y ≠ 0 ∧ (dB = (y.toNat : Int) ∨ dB = 0 ∧ y = 1) := by
    by_cases h : dB = 0
    · exact ⟨1, by decide, Or.inr ⟨h, rfl⟩⟩
    · obtain ⟨y, hy⟩ : ∃ y : UInt8, dB = (y.toNat : Int) := ⟨UInt8.ofNat dB.toNat, by
        rw [UInt8.toNat_ofNat', Nat.mod_eq_of_lt (by omega)]
        omega⟩
      exact ⟨y, fun e => h (by rw [hy, e]; rfl), Or.inl hy⟩
  have HAm6 : Hid (∀ u, Calls Tryz.prog 13 #[.int .i64 many, .int .i64 6] u fun e w' => e = .returned (.int .i64 (r : Int)) ∧ u = w') := fun u => by
    have := among_any many 6 u (by decide) (by decide)
    rw [hr] at this
    exact this
  have HAmN : Hid (∀ u, Calls Tryz.prog 13 #[.int .i64 at0, .int .i64 (n : Int)] u fun e w' => e = .returned (.int .i64 (J : Int)) ∧ u = w') := fun u => by
    have := among_any at0 n u (by omega) (by omega)
    rw [hJ] at this
    exact this
  have HAm5 : Hid (∀ u, Calls Tryz.prog 13 #[.int .i64 at0, .int .i64 57] u fun e w' => e = .returned (.int .i64 (I : Int)) ∧ u = w') := fun u => by
    have := among_any at0 57 u (by decide) (by decide)
    rw [hI] at this
    exact this
  have HF0 : Hid (Fine wkF0r []) := ⟨fun _ => ⟨Nat.zero_le _, (fun _ hq => by cases hq)⟩, (fun _ h => by cases h), (fun _ he => by cases he), Nat.zero_le _⟩
  have HWk : Hid (∀ u, Calls Tryz.prog 8 #[] u fun e w' => e = .returned (.bool true) ∧ Below u.heap.size u w') := fun u => works_any u
  have HY : Hid (y ≠ 0) := hy
  have HDB : Hid (dB = (y.toNat : Int) ∨ dB = 0 ∧ y = 1) := hd
  clear hr hJ hI hy hd hb0 hb1
  have hn1 : (r : Int) + 1 = (n : Int) := by omega
  have hn6 : n ≤ 6 := by omega
  have hn0 : 1 ≤ n := by omega
  have hw1 : IntKind.i64.wrap (1 + (r : Int)) = (n : Int) := by rw [wrap_small _ (by omega) (by omega)]; omega
  clear hn hr2
  go_enter Tryz.func4, Tryz.ntmps4
  go_wp2_with fail
  refine (dnew_i w).mono ?_
  rintro e w1 ⟨d, F1, rfl, hD1, hF1, hb1⟩
  have S1 : Hid (Stand (DiskI d Dk.blank) w w1 []) := Stand.start hD1 hF1 hb1
  clear hD1 hF1 hb1
  have HO : Hid (Calls Tryz.prog 9 #[.pointer (some ⟨d, 0, none⟩), .int .i64 1] w1 fun e w' => ∃ l, e = .returned (.tuple #[.pointer (some ⟨l, 0, none⟩), .int .i64 0]) ∧ Hid (Stand (LD tB kB l d Dk.blank ⟨[([], 0)], 0, 0⟩) w w' [])) := by
    obtain ⟨F, hF, kF⟩ := S1.out.any
    refine (cOpen0 hF (qdisk_blank tB kB) HF0.out rfl (by decide) (by decide) (by decide) 1 (Or.inl rfl)).mono ?_
    rintro e w' ⟨l, e1, hg⟩
    exact ⟨l, e1, kF _ _ hg⟩
  go_wp2_with fail
  refine HO.out.mono ?_
  rintro e w2 ⟨l, rfl, S2⟩
  clear S1 HO
  go_wp2_with fail
  refine (HWk.out _).mono ?_
  rintro e w3 ⟨rfl, hb3⟩
  have S3 : Hid (Stand (LD tB kB l d Dk.blank ⟨[([], 0)], 0, 0⟩) w w3 []) := S2.out.below (LD.res _ _ _ _ _ _) hb3
  clear S2 hb3 HWk
  go_wp2_with (go_at_call 13; (with_reducible refine (HAm6.out _).mono ?_); rintro e w4 ⟨rfl, rfl⟩)
  clear HAm6
  go_loopw [38] (fun vi wr => ∃ (i : Nat) (W : List (Nat × Nat)) (l0 : Nat), vi = .int .i64 i ∧ i ≤ n ∧ Hid (W.length = i ∧ l0 < tidN 1 i) ∧ Hid (Stand (LD tB kB l d Dk.blank ⟨[(W, l0)], 0, 0⟩) w wr [])) (fun vi _ => n - (intOf vi).toNat)
  case atStart => exact ⟨0, [], 0, rfl, Nat.zero_le _, ⟨rfl, by decide⟩, S3⟩
  case round =>
    obtain ⟨i, W, l0, rfl, hin, HP, HS⟩ := hrel
    by_cases hlt : i < n
    · have hltI : (i : Int) < (n : Int) := by omega
      have HEn : Hid (∀ u, Calls Tryz.prog 14 #[.int .i64 1, .int .i64 (i : Int), .int .i64 (i : Int)] u fun e w' => ∃ g x, e = .returned (.agg #[.int .u64 (tidN 1 i : Int), .slice (some ⟨g, 0, none⟩) 1 1]) ∧ Hid (w'.heap[g]? = some (boxJ tB kB x) ∧ OneAt w' x 2 (i : Int) ByteArray.empty ∧ u.heap.size ≤ g ∧ u.heap.size ≤ x) ∧ Below u.heap.size u w') := fun u => centry 1 i i u (by decide) (by omega)
      obtain ⟨T, hT⟩ : ∃ T, tidN 1 i = T := ⟨_, rfl⟩
      rw [hT] at HEn
      have HPn : Hid (TidOk T ∧ T / 8388608 = 1 ∧ l0 < T ∧ T < tidN 1 (i + 1)) := by
        obtain ⟨p1, p2⟩ := HP.out
        obtain ⟨k1, k2⟩ := tid_ok (ep := 1) (sq := i) (by decide) (by omega)
        rw [hT] at k1 k2 p2
        exact ⟨k1, k2, p2, by rw [← hT]; exact rots_next _ _⟩
      have HAdd : Hid (∀ g y u, Stand (LD tB kB l d Dk.blank ⟨[(W, l0)], 0, 0⟩) w u [] → u.heap[g]? = some (boxJ tB kB y) → OneAt u y 2 (i : Int) ByteArray.empty → Calls Tryz.prog 15 #[.pointer (some ⟨l, 0, none⟩), .int .i64 0, .agg #[.int .u64 (T : Int), .slice (some ⟨g, 0, none⟩) 1 1]] u fun e w' => e = .returned (.int .i64 0) ∧ Hid (Stand (LD tB kB l d Dk.blank ⟨[(W ++ [(T, i)], T)], 0, 0⟩) w w' [])) := fun g y u hS hg hy => by
        obtain ⟨F, hF, kF⟩ := hS.any
        obtain ⟨t1, t2, t3, _⟩ := HPn.out
        obtain ⟨p1, p2⟩ := HP.out
        exact (cAdd_ok hF 0 T i g y (W, l0) rfl (show W.length ≤ 900 by omega) t1 hg hy (by omega) (by decide) (by decide) t3 (show 0 < T / 8388608 by omega)).mono fun e w' ⟨e1, hg⟩ => ⟨e1, kF _ _ hg⟩
      clear hT
      go_wp2_with (first
        | (go_at_call 14; (with_reducible refine (HEn.out _).mono ?_); rintro e w5 ⟨g, y, rfl, E5, hb5⟩; have HA5 := HAdd.out g y w5 (HS.out.below (LD.res _ _ _ _ _ _) hb5) E5.out.1 E5.out.2.1; clear hb5)
        | (go_at_call 15; (with_reducible refine HA5.mono ?_); rintro e w6 ⟨rfl, S6⟩; clear HA5))
      refine ⟨⟨i + 1, W ++ [(T, i)], T, by go_num, by omega, ⟨?_, HPn.out.2.2.2⟩, S6⟩, by simp [intOf]; omega⟩
      rw [List.length_append]
      show W.length + 1 = i + 1
      rw [HP.out.1]
    · obtain rfl : i = n := by omega
      have hltI : ¬ (i : Int) < (i : Int) := by omega
      have HWn : Hid (W ≠ []) := fun e => by
        have := HP.out.1
        rw [e] at this
        simp at this
        omega
      have HFl : Hid (Calls Tryz.prog 16 #[.pointer (some ⟨l, 0, none⟩), .int .i64 0] wr fun e w' => e = .returned (.int .i64 0) ∧ ∃ s : Dk.Dsk, Hid (QDisk s tB kB (updF wkF0r (logB 0 0).data.toList (wkF0r (logB 0 0).data.toList ++ W)) [] ∧ s.fs.length ≤ 1 ∧ Dk.keysL s.fs = Dk.insN (logB 0 0).data.toList []) ∧ Hid (Stand (LD tB kB l d s ⟨[([], l0)], 0, 0⟩) w w' [])) := by
        obtain ⟨F, hF, kF⟩ := HS.out.any
        refine (cFlush hF (qdisk_blank tB kB) 0 (W, l0) rfl (by decide) (show 0 < 100 by decide) (by decide) (by decide) (show 0 + W.length ≤ 1000 by rw [HP.out.1]; omega) (by decide)).mono ?_
        rintro e w' ⟨e1, s2, q1, q2, q3, hg⟩
        rw [if_neg HWn.out] at q3
        exact ⟨e1, s2, ⟨q1, q2, q3⟩, kF _ _ hg⟩
      go_wp2_with fail
      refine HFl.out.mono ?_
      rintro e w4 ⟨rfl, s4, Q4, S4⟩
      clear HFl HS
      have HM : Hid (Calls Tryz.prog 17 #[.pointer (some ⟨l, 0, none⟩), .int .i64 1] w4 fun e w' => e = .returned (.int .i64 0) ∧ ∃ s : Dk.Dsk, Hid (QDisk s tB kB (updF wkF0r (logB 0 0).data.toList (wkF0r (logB 0 0).data.toList ++ W)) [1] ∧ Dk.keysL s.fs = [epochB.data.toList, (logB 0 0).data.toList]) ∧ Hid (Stand (DiskI d s) w w' [])) := by
        obtain ⟨F, hF, kF⟩ := S4.out.any
        obtain ⟨q1, q2, q3⟩ := Q4.out
        refine (cMark hF q1 1 (show 0 < 1 by decide) (by decide) (fun wk hwk => ?_) (by decide) (by omega)).mono ?_
        · simp at hwk
          rw [hwk]
        · rintro e w' ⟨e1, s2, p1, p2, p3, hg⟩
          exact ⟨e1, s2, ⟨p1, by rw [p3, q3, keys_rots]⟩, (kF _ _ hg).forget0⟩
      go_wp2_with fail
      refine HM.out.mono ?_
      rintro e w5 ⟨rfl, s5, Q5, S5⟩
      clear HM S4 Q4
      obtain ⟨D, hDe⟩ : ∃ D, flatF (W.map (bodyN tB kB)) = D := ⟨_, rfl⟩
      have hDl : D.length = i * 61 := by
        rw [← hDe, lineF_len, HP.out.1]
        rfl
      have hlogs : (Dk.fileOr (Dk.getL (logB 0 0).data.toList s5.fs)).data = D := by
        rw [Q5.out.1.logs _ (logK_at (v := 0) (g := 0) (by decide) (by decide)).1]
        unfold updF
        rw [if_pos rfl]
        exact hDe
      have HRd : Hid (∀ LB, LB = logB 0 0 → Calls Tryz.prog 22 #[.pointer (some ⟨d, 0, none⟩), .string LB] w5 fun e w' => e = .returned (.tuple #[.string ⟨D.toArray⟩, .int .i64 0]) ∧ w5 = w') := by
        rintro LB rfl
        obtain ⟨F, hF, _⟩ := S5.out.any
        have hok := (logK_at (v := 0) (g := 0) (by decide) (by decide)).2.2
        have h1 := dread_i (logB 0 0) hF logs_small
        have h2 : Dk.findE s5 (logB 0 0).data.toList = 0 := by
          unfold Dk.findE
          rw [if_pos hok]
          cases hg : Dk.getL (logB 0 0).data.toList s5.fs with
          | some x => rfl
          | none =>
            rw [hg] at hlogs
            have : D = [] := hlogs.symm
            rw [this] at hDl
            simp at hDl
            omega
        rw [readV_ok hok, hlogs, h2] at h1
        exact h1.mono fun _ _ h => ⟨h.1, h.2.symm⟩
      obtain ⟨x, hx⟩ : ∃ x : ByteArray, (⟨D.toArray⟩ : ByteArray) = x := ⟨_, rfl⟩
      have hxl : x.data.toList = D := by rw [← hx]
      have hxs : x.size = i * 61 := by
        have : x.data.toList.length = x.size := rfl
        rw [← this, hxl, hDl]
      rw [hx] at HRd
      obtain ⟨K, hK⟩ : ∃ K, J * 61 + 4 + I = K := ⟨_, rfl⟩
      have hKl : K < x.size := by rw [hxs]; omega
      have hKD : K < D.length := by rw [hDl]; omega
      obtain ⟨d0, hd0⟩ : ∃ d0, D[K] = d0 := ⟨_, rfl⟩
      obtain ⟨f, hf⟩ : ∃ f, d0 ^^^ y = f := ⟨_, rfl⟩
      have hxor : bits .xor .u8 (d0.toNat : Int) (y.toNat : Int) = (f.toNat : Int) := by
        rw [u8_xor_nat _ _ d0.toNat_lt y.toNat_lt, ← hf, UInt8.toNat_xor]
      have HRot : Hid (RotL (D.set K f)) := by
        have hs : ∀ b ∈ W.map (bodyN tB kB), b.size = 53 := fun b hb => by
          obtain ⟨p, _, rfl⟩ := List.mem_map.1 hb
          rw [bodyN_size]
          rfl
        have hfd : f ≠ d0 := by rw [← hf]; exact xor_ne8 HY.out
        have := rot_of (W.map (bodyN tB kB)) 53 J (4 + I) f d0 (by decide) hs (by rw [List.length_map, HP.out.1]; exact hJ2) (by omega) (by omega) (by rw [hDe, show J * (53 + 8) + (4 + I) = K by omega, List.getElem?_eq_getElem hKD, hd0]) hfd
        rw [hDe, show J * (53 + 8) + (4 + I) = K by omega] at this
        exact this
      obtain ⟨X, hX⟩ : ∃ X, bytesOf (D.set K f) = X := ⟨_, rfl⟩
      have hXl : X.data.toList = D.set K f := by rw [← hX]; rfl
      have hXs : (D.set K f).length ≤ 1000 := by rw [List.length_set, hDl]; omega
      obtain ⟨g1, g2, g3, g4⟩ := rot_disk Q5.out.1 ⟨by decide, by decide⟩ Q5.out.2 (D.set K f) HRot.out hXs
      have hXz : X.size ≤ 1000 := by
        have : X.data.toList.length = X.size := rfl
        rw [← this, hXl]
        exact hXs
      have hXm : X.size ≤ maxLen := Nat.le_trans hXz (by decide)
      have HRm : Hid (∀ LB, LB = logB 0 0 → ∀ (u : World) L, Stand (DiskI d s5) w u L → Calls Tryz.prog 23 #[.pointer (some ⟨d, 0, none⟩), .string LB] u fun e w' => e = .returned (.int .i64 0) ∧ Hid (Stand (DiskI d (Dk.removeS s5 (logB 0 0).data.toList)) w w' L)) := by
        rintro LB rfl u L hS
        obtain ⟨F, hF, kF⟩ := hS.any
        have h1 := dremove_i (logB 0 0) hF logs_small
        rw [g1] at h1
        exact h1.mono fun e w' ⟨e1, hg⟩ => ⟨e1, kF _ _ hg⟩
      obtain ⟨s6, hs6⟩ : ∃ s6, Dk.removeS s5 (logB 0 0).data.toList = s6 := ⟨_, rfl⟩
      rw [hs6] at HRm g2 g3 g4
      have HAp : Hid (∀ LB, LB = logB 0 0 → ∀ (u : World) L, Stand (DiskI d s6) w u L → Calls Tryz.prog 24 #[.pointer (some ⟨d, 0, none⟩), .string LB, .string X] u fun e w' => e = .returned (.int .i64 0) ∧ Hid (Stand (DiskI d (Dk.appendS s6 (logB 0 0).data.toList (D.set K f))) w w' L)) := by
        rintro LB rfl u L hS
        obtain ⟨F, hF, kF⟩ := hS.any
        have h1 := dappend_i (logB 0 0) X hF logs_small hXm
        rw [hXl, g2] at h1
        exact h1.mono fun e w' ⟨e1, hg⟩ => ⟨e1, kF _ _ hg⟩
      obtain ⟨s7, hs7⟩ : ∃ s7, Dk.appendS s6 (logB 0 0).data.toList (D.set K f) = s7 := ⟨_, rfl⟩
      have g4' : RotD (Dk.syncS (Dk.appendS s6 (logB 0 0).data.toList (D.set K f)) (logB 0 0).data.toList) 0 0 1 := g4
      rw [hs7] at HAp g3 g4'
      have HSy : Hid (∀ LB, LB = logB 0 0 → ∀ (u : World) L, Stand (DiskI d s7) w u L → Calls Tryz.prog 25 #[.pointer (some ⟨d, 0, none⟩), .string LB] u fun e w' => e = .returned (.int .i64 0) ∧ Hid (Stand (DiskI d (Dk.syncS s7 (logB 0 0).data.toList)) w w' L)) := by
        rintro LB rfl u L hS
        obtain ⟨F, hF, kF⟩ := hS.any
        have h1 := dsync_i (logB 0 0) hF logs_small
        rw [g3] at h1
        exact h1.mono fun e w' ⟨e1, hg⟩ => ⟨e1, kF _ _ hg⟩
      obtain ⟨s8, hs8⟩ : ∃ s8, Dk.syncS s7 (logB 0 0).data.toList = s8 := ⟨_, rfl⟩
      rw [hs8] at HSy g4'
      have HLd : Hid (∀ (u : World) L, Stand (DiskI d s8) w u L → Calls Tryz.prog 19 #[.pointer (some ⟨d, 0, none⟩)] u fun e w' => e = .returned (.tuple #[.slice none 0 0, .int .i64 0, .int .i64 190]) ∧ Hid (Below w.heap.size w w')) := fun u L hS => by
        obtain ⟨F, hF, _⟩ := hS.any
        refine (jLoad_err 190 u fun u' hu' => jload_rot d 0 0 1 s8 u' F (hF.below hu') g4').mono ?_
        rintro e w' ⟨e1, hb⟩
        exact ⟨e1, hS.base.trans (hb.mono hS.base.size)⟩
      have t1 : (i : Int) ≠ 0 := by omega
      have t2 : ((i : Int) == 0) = false := by rw [beq_eq_false_iff_ne]; exact t1
      have t3 : (x.size : Int).tmod (i : Int) = 0 := by
        rw [hxs, Int.natCast_mul, Int.mul_tmod_right]
      have t4 : (x.size : Int).tdiv (i : Int) = 61 := by
        rw [hxs, Int.natCast_mul]
        exact Int.mul_tdiv_cancel_left _ t1
      have t5 : (J : Int) * 61 + 4 + (I : Int) = (K : Int) := by omega
      have HCv : Hid (∃ u c, (convert 9 54 (.string x)).run Tryz.prog w5 = .ok (.slice (some ⟨w5.heap.size, 0, none⟩) x.size c) u ∧ Below w5.heap.size w5 u ∧ BytesAt u w5.heap.size x.data.toList ∧ ∀ j, j < x.size → u.frozen? ⟨w5.heap.size, j, none⟩ = false) := conv_at x w5 w5.heap.size rfl
      obtain ⟨u6, cp, hconv, hbu, ⟨C, tt, fz, hC1, hC2⟩, hfr⟩ := HCv.out
      have q0 : u6.cell? ⟨w5.heap.size, K, none⟩ = some (.int .u8 (d0.toNat : Int)) := by
        rw [cell_of hC1, ← hd0]
        have h2 := hC2 K (by rw [hxl]; exact hKD)
        rw [h2]
        simp only [hxl]
      have q1 := hfr K hKl
      have S6 : Hid (Stand (DiskI d s5) w u6 [(w5.heap.size, Obj.cells C tt fz)]) := by
        obtain ⟨F, h1, h2, h3, h4, h5⟩ := S5.out.below (DiskI.res d s5) hbu
        obtain ⟨F5, m1, m2, m3, m4, m5⟩ := S5.out
        exact ⟨F5, (DiskI.res d s5).kept (S := fun _ => False) m1 (Turn.ofBelow _ hbu) (fun _ _ h => h), m2, (fun p hp => by
          rw [List.mem_singleton.1 hp]
          exact fun hF => Nat.lt_irrefl _ ((DiskI.res d s5).lt m1 _ hF)), (fun p hp => by
          rw [List.mem_singleton.1 hp]
          exact ⟨hC1, m5.size⟩), h5⟩
      have S7 : Hid (Stand (DiskI d s5) w (u6.setCell ⟨w5.heap.size, K, none⟩ (.int .u8 (f.toNat : Int))) [(w5.heap.size, Obj.cells (C.setIfInBounds K (.int .u8 (f.toNat : Int))) tt fz)]) :=
        S6.out.set (DiskI.res d s5) (List.mem_singleton.2 rfl) K _ _ fun p hp => Or.inr (List.mem_singleton.1 hp)
      have HStr : Hid (∀ u : World, u.heap[w5.heap.size]? = some (Obj.cells (C.setIfInBounds K (.int .u8 (f.toNat : Int))) tt fz) → (convert 54 9 (.slice (some ⟨w5.heap.size, 0, none⟩) x.size cp)).run Tryz.prog u = .ok (.string X) u) := fun u hu => by
        have hB0 : BytesAt u6 w5.heap.size D := ⟨C, tt, fz, hC1, by rw [← hxl]; exact hC2⟩
        have hB1 : BytesAt u w5.heap.size (D.set K f) := by
          obtain ⟨C2, t2, z2, k1, k2⟩ := hB0.set K f
          have e0 := heap_setCell_same hC1 K (.int .u8 (f.toNat : Int))
          rw [k1] at e0
          exact ⟨_, _, _, hu, by
            have e1 : C2 = C.setIfInBounds K (.int .u8 (f.toNat : Int)) := by
              injection e0 with e0
              injection e0
            rw [← e1]
            exact k2⟩
        rw [← hX]
        exact hB1.str (by rw [List.length_set, hDl, hxs]) cp
      have hx64 : x.size ≤ 1000 := by rw [hxs]; omega
      have hKI : (K : Int) < (x.size : Int) := by omega
      clear hx hxl hxs hd0 hf hX hXl hXs hs6 hs7 hs8 g1 g2 g3 g4 g4' hDe hDl hlogs hKD hbu hC1 hC2 hfr HCv HRot HP
      rcases HDB.out with hd | ⟨hd, hy⟩
      · subst hd
        have hy1 : ¬ ((y.toNat : Int) = 0) := fun e => HY.out (UInt8.toNat_inj.1 (Int.natCast_inj.1 e))
        go_wp2_with (first
          | (go_at_call 22; (with_reducible refine (HRd.out _ logs_name.symm).mono ?_); rintro e w6 ⟨rfl, rfl⟩)
          | (go_at_call 13; first | ((with_reducible refine (HAmN.out _).mono ?_); rintro e w6 ⟨rfl, rfl⟩) | ((with_reducible refine (HAm5.out _).mono ?_); rintro e w6 ⟨rfl, rfl⟩))
          | (go_at_call 23; (with_reducible refine (HRm.out _ logs_name.symm _ _ S7.out).mono ?_); rintro e w8 ⟨rfl, S8⟩; have hstr := HStr.out w8 (S8.out.at (List.mem_singleton.2 rfl)))
          | (go_at_call 24; (with_reducible refine (HAp.out _ logs_name.symm _ _ S8.out).mono ?_); rintro e w9 ⟨rfl, S9⟩)
          | (go_at_call 25; (with_reducible refine (HSy.out _ logs_name.symm _ _ S9.out).mono ?_); rintro e w10 ⟨rfl, S10⟩)
          | (go_at_call 19; (with_reducible refine (HLd.out _ _ S10.out).mono ?_); rintro e w11 ⟨rfl, HB⟩))
        go_ret
        exact ⟨rfl, HB.out⟩
      · subst hd
        subst hy
        have hxor' : bits .xor .u8 (d0.toNat : Int) (1 : Int) = (f.toNat : Int) := hxor
        go_wp2_with (first
          | (go_at_call 22; (with_reducible refine (HRd.out _ logs_name.symm).mono ?_); rintro e w6 ⟨rfl, rfl⟩)
          | (go_at_call 13; first | ((with_reducible refine (HAmN.out _).mono ?_); rintro e w6 ⟨rfl, rfl⟩) | ((with_reducible refine (HAm5.out _).mono ?_); rintro e w6 ⟨rfl, rfl⟩))
          | (go_at_call 23; (with_reducible refine (HRm.out _ logs_name.symm _ _ S7.out).mono ?_); rintro e w8 ⟨rfl, S8⟩; have hstr := HStr.out w8 (S8.out.at (List.mem_singleton.2 rfl)))
          | (go_at_call 24; (with_reducible refine (HAp.out _ logs_name.symm _ _ S8.out).mono ?_); rintro e w9 ⟨rfl, S9⟩)
          | (go_at_call 25; (with_reducible refine (HSy.out _ logs_name.symm _ _ S9.out).mono ?_); rintro e w10 ⟨rfl, S10⟩)
          | (go_at_call 19; (with_reducible refine (HLd.out _ _ S10.out).mono ?_); rintro e w11 ⟨rfl, HB⟩))
        go_ret
        exact ⟨rfl, HB.out⟩
end Go.Proofs.YtigegdelhpdlhaaGreatDoor
