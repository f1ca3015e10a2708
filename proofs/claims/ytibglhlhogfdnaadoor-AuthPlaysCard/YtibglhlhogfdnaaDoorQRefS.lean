/- Layer 24: the document's Sum. -/
import Derived.Test.YtibglhlhogfdnaaDoorQRefB
import Derived.Test.YtibglhlhogfdnaaDoorQConv
import Derived.Test.YtibglhlhogfdnaaDoorQStep
namespace Go.Proofs.YtibglhlhogfdnaaDoor
open Go.RowKit QP

theorem ps_length : ps.length = 64 := rfl
theorem ps_small {i q : Nat} (h : ps[i]? = some q) : q < 4096 := by
  have h1 : ps.all (fun x => decide (x < 4096)) = true := by decide
  exact of_decide_eq_true (List.all_eq_true.1 h1 q (List.mem_of_getElem? h))
theorem take_map_succ {f : Nat → Nat} {i q : Nat} (h : ps[i]? = some q) : (ps.take (i + 1)).map f = (ps.take i).map f ++ [f q] := by
  obtain ⟨hi, he⟩ := List.getElem?_eq_some_iff.1 h
  rw [List.take_succ_eq_append_getElem hi, List.map_append, he]
  rfl
theorem take_map_len (f : Nat → Nat) {i : Nat} (h : i ≤ 64) : ((ps.take i).map f).length = i := by
  rw [List.length_map, List.length_take, ps_length]
  omega

/-- how long a slice is -/
def lenV : Value → Nat
  | .slice _ n _ => n
  | _ => 0
/-- what Sum tells -/
def SumR (w : World) (L : List Nat) (e : Ending) (w' : World) : Prop := e = .returned (.string (ofN L)) ∧ Below w.heap.size w w'

set_option maxRecDepth 100000 in
set_option maxHeartbeats 4000000 in
theorem rSum_any (b : ByteArray) (w : World) (hb : b.size ≤ 400000) : Calls Tryd.prog 24 #[.string b] w (SumR w (dig (nb b))) := by
  have HP : Hid (∀ u, Calls Tryd.prog 38 #[.int .i64 64] u (PrR u)) := fun u => primes_any u
  go_enter Tryd.func24, Tryd.ntmps24
  go_wp2_with (go_at_call 38; go_must (refine (HP.out _).mono ?_; rintro y w1 ⟨gp, cp, rfl, hrow1, hgp1, hcp1, hcp2, hbel1⟩))
  have HP1 : Hid (RowK .u64 29 w1 gp ps) := hrow1
  have HB1 : Hid (Below w.heap.size w w1) := hbel1
  clear hrow1 hgp1 hcp1 hcp2 hbel1 HP
  go_wp2_with fail
  go_loopw [4, 5, 6] (fun sv kv iv wr => ∃ (i n c d : Nat) (A B : Option Addr), i ≤ 64 ∧ iv = .int .i64 i ∧ sv = .slice A n c ∧ kv = .slice B i d ∧ n ≤ 8 ∧ Hid (n = min i 8) ∧ Hid (TwoW wr w1.heap.size (.slice A n c) (.slice B i d) ((ps.take n).map sq) ((ps.take i).map cb)) ∧ Hid (Below w1.heap.size w1 wr)) (fun _ _ iv _ => 64 - (intOf iv).toNat)
  case atStart => exact ⟨0, 0, 0, 0, none, none, by omega, rfl, rfl, rfl, by omega, (rfl : _ = _), TwoW.nil, Below.refl _ _⟩
  case round =>
    obtain ⟨i, n, c, d, A, B, hi, rfl, rfl, rfl, hn, HN, HT, HB⟩ := hrel
    by_cases hlt : i < 64
    · have hlI : (i : Int) < 64 := by omega
      have hil : i < ps.length := by rw [ps_length]; exact hlt
      obtain ⟨q, hq⟩ : ∃ q, ps[i]? = some q := ⟨_, List.getElem?_eq_getElem hil⟩
      have hqs := ps_small hq
      have dp := (HP1.out.below HB.out).cell hq
      have HS : Hid (∀ u, Calls Tryd.prog 39 #[.int .u64 q] u fun e w' => e = .returned (.int .u32 (sq q)) ∧ w' = u) := fun u => square_any q u
      have HC : Hid (∀ u, Calls Tryd.prog 40 #[.int .u64 q] u fun e w' => e = .returned (.int .u32 (cb q)) ∧ w' = u) := fun u => cube_any q u hqs
      obtain ⟨yc, eyc⟩ : ∃ y, cb q = y := ⟨_, rfl⟩
      obtain ⟨ys, eys⟩ : ∃ y, sq q = y := ⟨_, rfl⟩
      rw [eyc] at HC
      rw [eys] at HS
      have hb1 : w1.heap.size ≤ wr.heap.size := HB.out.size
      have HCb : Hid ((ps.take (i + 1)).map cb = (ps.take i).map cb ++ [yc]) := by show _ = _; rw [take_map_succ hq, eyc]
      clear eyc
      by_cases hi8 : i < 8
      · have hiI : (i : Int) < 8 := by omega
        have hni : n = i := by have := HN.out; omega
        subst hni
        have HSb : Hid ((ps.take (n + 1)).map sq = (ps.take n).map sq ++ [ys]) := by show _ = _; rw [take_map_succ hq, eys]
        have HN1 : Hid (n + 1 = min (n + 1) 8) := by show _ = _; omega
        clear eys hqs
        have HX : Hid (((ps.take n).map sq).length = n) := take_map_len sq (by omega)
        have HY : Hid (((ps.take n).map cb).length = n) := take_map_len cb (by omega)
        have HX1 : Hid (((ps.take (n + 1)).map sq).length = n + 1) := take_map_len sq (by omega)
        have HY1 : Hid (((ps.take (n + 1)).map cb).length = n + 1) := take_map_len cb (by omega)
        obtain ⟨X, hX⟩ : ∃ X, (ps.take n).map sq = X := ⟨_, rfl⟩
        obtain ⟨Y, hY⟩ : ∃ X, (ps.take n).map cb = X := ⟨_, rfl⟩
        obtain ⟨X1, hX1⟩ : ∃ X, (ps.take (n + 1)).map sq = X := ⟨_, rfl⟩
        obtain ⟨Y1, hY1⟩ : ∃ X, (ps.take (n + 1)).map cb = X := ⟨_, rfl⟩
        rw [hX] at HX HT HSb
        rw [hY] at HY HT HCb
        rw [hX1] at HX1 HSb
        rw [hY1] at HY1 HCb
        have HX1' : Hid ((ps.take (n + 1)).map sq = X1) := hX1
        have HY1' : Hid ((ps.take (n + 1)).map cb = Y1) := hY1
        clear hX hY hX1 hY1
        go_wp2_with (first | (go_at_call 39; go_must (refine (HS.out _).mono ?_; rintro y w2 ⟨rfl, rfl⟩)) | (at_builtin; go_must (refine wpList_nums okU32 rfl _ _ rfl w1.heap.size X [ys] A n c rfl ?q1 (by omega) ?q2 w2.heap.size 1 rfl rfl (by omega) ?q3 ?_)))
        case q1 =>
          have h := HT.out.l
          rw [HX.out] at h
          exact h.alloc _
        case q2 => simp; omega
        case q3 => exact RowK.new w2 .u32 _ [ys] _ rfl
        intro A3 c3 w3 ho3 hb3 hg3 hat3
        have HT3 : Hid (TwoW w3 w1.heap.size (.slice A3 (n + 1) c3) (.slice B n d) X1 Y) := by
          refine (HT.out.alloc _).left (X' := X1) ?_ hg3 (hat3.imp id (fun h => h.trans (by simp)))
          rw [HX1.out, HSb.out]
          exact ho3
        have HB3 : Hid (Below w1.heap.size w1 w3) := (HB.out.alloc hb1 _).trans hb3
        have hb13 : w1.heap.size ≤ w3.heap.size := HB3.out.size
        have dp3 := (HP1.out.below HB3.out).cell hq
        clear ho3 hb3 hg3 hat3 HT HB hb1 dp HS
        go_wp2_with (first | (go_at_call 40; go_must (refine (HC.out _).mono ?_; rintro y w4 ⟨rfl, rfl⟩)) | (at_builtin; go_must (refine wpList_nums okU32 rfl _ _ rfl w1.heap.size Y [yc] B n d rfl ?p1 (by omega) ?p2 w4.heap.size 1 rfl rfl (by omega) ?p3 ?_)))
        case p1 =>
          have h := HT3.out.r
          rw [HY.out] at h
          exact h.alloc _
        case p2 => simp; omega
        case p3 => exact RowK.new w4 .u32 _ [yc] _ rfl
        intro B5 d5 w5 ho5 hb5 hg5 hat5
        have HT5 : Hid (TwoW w5 w1.heap.size (.slice A3 (n + 1) c3) (.slice B5 (n + 1) d5) ((ps.take (n + 1)).map sq) ((ps.take (n + 1)).map cb)) := by
          rw [HX1'.out, HY1'.out]
          refine ((HT3.out.alloc _).swap.left (X' := Y1) ?_ hg5 (hat5.imp id (fun h => h.trans (by simp)))).swap
          rw [HY1.out, HCb.out]
          exact ho5
        have HB5 : Hid (Below w1.heap.size w1 w5) := (HB3.out.alloc hb13 _).trans hb5
        clear ho5 hb5 hg5 hat5 HT3 HB3 hb13 dp3 HC
        go_wp2_with fail
        go_roundw
        case rel => exact ⟨n + 1, n + 1, c3, d5, A3, B5, by omega, by go_num, rfl, rfl, by omega, HN1, HT5, HB5⟩
        case measure => simp [intOf]; omega
      · have hiI : ¬ (i : Int) < 8 := by omega
        have hn8 : n = 8 := by have := HN.out; omega
        subst hn8
        have HN1 : Hid (8 = min (i + 1) 8) := by show _ = _; omega
        have HY : Hid (((ps.take i).map cb).length = i) := take_map_len cb (by omega)
        have HY1 : Hid (((ps.take (i + 1)).map cb).length = i + 1) := take_map_len cb (by omega)
        obtain ⟨X, hX⟩ : ∃ X, (ps.take 8).map sq = X := ⟨_, rfl⟩
        obtain ⟨Y, hY⟩ : ∃ X, (ps.take i).map cb = X := ⟨_, rfl⟩
        obtain ⟨Y1, hY1⟩ : ∃ X, (ps.take (i + 1)).map cb = X := ⟨_, rfl⟩
        rw [hX] at HT
        rw [hY] at HY HT HCb
        rw [hY1] at HY1 HCb
        have HX1' : Hid ((ps.take 8).map sq = X) := hX
        have HY1' : Hid ((ps.take (i + 1)).map cb = Y1) := hY1
        clear hX hY hY1 eys hq HS
        go_wp2_with (first | (go_at_call 40; go_must (refine (HC.out _).mono ?_; rintro y w4 ⟨rfl, rfl⟩)) | (at_builtin; go_must (refine wpList_nums okU32 rfl _ _ rfl w1.heap.size Y [yc] B i d rfl ?p1 (by omega) ?p2 w4.heap.size 1 rfl rfl (by omega) ?p3 ?_)))
        case p1 =>
          have h := HT.out.r
          rw [HY.out] at h
          exact h.alloc _
        case p2 => simp; omega
        case p3 => exact RowK.new w4 .u32 _ [yc] _ rfl
        intro B5 d5 w5 ho5 hb5 hg5 hat5
        have HT5 : Hid (TwoW w5 w1.heap.size (.slice A 8 c) (.slice B5 (i + 1) d5) ((ps.take 8).map sq) ((ps.take (i + 1)).map cb)) := by
          rw [HX1'.out, HY1'.out]
          refine ((HT.out.alloc _).swap.left (X' := Y1) ?_ hg5 (hat5.imp id (fun h => h.trans (by simp)))).swap
          rw [HY1.out, HCb.out]
          exact ho5
        have HB5 : Hid (Below w1.heap.size w1 w5) := (HB.out.alloc hb1 _).trans hb5
        clear ho5 hb5 hg5 hat5 HT HB hb1 dp HC
        go_wp2_with fail
        go_roundw
        case rel => exact ⟨i + 1, 8, c, d5, A, B5, by omega, by go_num, rfl, rfl, by omega, HN1, HT5, HB5⟩
        case measure => simp [intOf]; omega
    · obtain rfl : i = 64 := by omega
      have hlI : ¬ ((64 : Nat) : Int) < 64 := by omega
      have hn8 : n = 8 := by have := HN.out; omega
      subst hn8
      have hT := HT.out
      rw [show (ps.take 8).map sq = H0 from rfl, show (ps.take 64).map cb = K from rfl] at hT
      have h1 := hT.l
      have h2 := hT.r
      rw [H0_length] at h1
      rw [K_length] at h2
      obtain ⟨gs, rfl, hgs, hrs, _, _⟩ := row_ofK h1 (by omega) H0_length
      obtain ⟨gk, rfl, hgk, hrk, _, _⟩ := row_ofK h2 (by omega) K_length
      have HS0 : Hid (RowK .u32 77 wr gs H0) := hrs
      have HK0 : Hid (RowK .u32 77 wr gk K) := hrk
      have HB0 : Hid (Below w.heap.size w wr) := HB1.out.trans (HB.out.mono HB1.out.size)
      obtain ⟨W, hW⟩ : ∃ W, W = wr := ⟨_, rfl⟩
      subst hW
      clear hT h1 h2 hrs hrk HT HB HN hgs hgk HB1 HP1 hi hlt
      obtain ⟨u, cm, hcv, hub, hum⟩ := conv_m b W (by unfold maxLen; omega)
      rw [show ((64 : Nat) : Int) = 64 from rfl] at *
      have hws : W.heap.size ≤ u.heap.size := hub.size
      have HU : Hid (Below W.heap.size W u) := hub
      have HM : Hid (RowM .u8 5 u W.heap.size cm (nb b)) := hum
      clear hub hum
      go_wp2_with (at_builtin; go_must (refine wpList_numsM okU8 rfl _ _ rfl W.heap.size (nb b) [128] W.heap.size b.size cm rfl ?q1 (nb_length b) (by omega) (Nat.le_refl _) ?q2 u.heap.size 1 rfl rfl (by omega) ?q3 ?_))
      case q1 => exact HM.out.below ((Below.refl _ _).alloc (Nat.le_refl _) _)
      case q2 => first | omega | (simp; omega)
      case q3 => exact RowK.new u .u8 _ [128] _ rfl
      intro g3 c3 w3 hr3 hb3 hg3
      have HM3 : Hid (RowM .u8 5 w3 g3 c3 (nb b ++ [128])) := hr3
      have HB3 : Hid (Below W.heap.size W w3) := (HU.out.alloc hws _).trans hb3
      clear hr3 hb3 HU HM hcv hws
      obtain ⟨n, hn⟩ : ∃ n, b.size = n := ⟨_, rfl⟩
      have HNb : Hid ((nb b).length = n) := by show _ = _; rw [nb_length, hn]
      have HBs : Hid (b.size = n) := hn
      have HD : Hid (dig (nb b) = (blks H0 (padded (nb b)) (many n)).flatMap b4) := by show _ = _; unfold dig; rw [HNb.out]
      have HPd : Hid (padded (nb b) = nb b ++ [128] ++ List.replicate (padZ n) 0 ++ be (n * 8) 8) := by show _ = _; unfold padded; rw [HNb.out]
      have HPl : Hid ((padded (nb b)).length = 64 * many n) := by show _ = _; rw [padded_blocks, HNb.out]
      have HPb : Hid (Bytes (padded (nb b))) := padded_bytes (nb_bytes b)
      obtain ⟨PM, hPM⟩ : ∃ M, padded (nb b) = M := ⟨_, rfl⟩
      rw [hPM] at HD HPd HPl HPb
      clear hPM
      rw [hn] at hb ⊢
      clear hn
      go_wp2_with fail
      go_loopw [7] (fun mv wx => ∃ (g c z : Nat), mv = .slice (some ⟨g, 0, none⟩) (n + 1 + z) c ∧ z ≤ padZ n ∧ W.heap.size ≤ g ∧ Hid (RowM .u8 5 wx g c (nb b ++ [128] ++ List.replicate z 0)) ∧ Hid (Below W.heap.size W wx)) (fun mv _ => n + 1 + padZ n - lenV mv)
      case atStart => exact ⟨g3, c3, 0, rfl, Nat.zero_le _, hg3, by show RowM _ _ _ _ _ _; rw [List.replicate_zero, List.append_nil]; exact HM3.out, HB3⟩
      case round =>
        clear HM3 HB3 hg3
        obtain ⟨g, c, z, rfl, hz, hg, HM, HB⟩ := hrel
        have hpz : padZ n < 64 := Nat.mod_lt _ (by decide)
        have HLn : Hid ((nb b ++ [128] ++ List.replicate z 0).length = n + 1 + z) := by
          show _ = _
          rw [List.length_append, List.length_append, List.length_replicate, HNb.out]
          rfl
        obtain ⟨r, hr⟩ : ∃ r, (n + 1 + z) % 64 = r := ⟨_, rfl⟩
        obtain ⟨L, hL⟩ : ∃ L, n + 1 + z = L := ⟨_, rfl⟩
        rw [hL] at hr HLn ⊢
        have hrT : (L : Int).tmod 64 = (r : Int) := by rw [Int.tmod_eq_emod_of_nonneg (by omega)]; omega
        have hrE : (L : Int) % 64 = (r : Int) := by omega
        have hpd : padZ n = (119 - n % 64) % 64 := rfl
        by_cases hlt : z < padZ n
        · have hr56 : ((r : Int) != 56) = true := by simp; omega
          have hLb : L ≤ 1000000 := by omega
          have HLz : Hid (L = n + 1 + z) := hL.symm
          have hbW : W.heap.size ≤ wr.heap.size := HB.out.size
          obtain ⟨Z, hZ⟩ : ∃ Z, nb b ++ [128] ++ List.replicate z 0 = Z := ⟨_, rfl⟩
          have HZ1 : Hid (nb b ++ [128] ++ List.replicate (z + 1) 0 = Z ++ [0]) := by show _ = _; rw [List.replicate_succ', ← List.append_assoc, hZ]
          rw [hZ] at HLn HM
          clear hL hr hpd hrE hpz hZ
          go_wp2_with (at_builtin; go_must (refine wpList_numsM okU8 rfl _ _ rfl W.heap.size Z [0] g L c rfl ?q1 HLn.out (by omega) hg ?q2 wr.heap.size 1 rfl rfl (by omega) ?q3 ?_))
          case q1 => exact HM.out.below ((Below.refl _ _).alloc (Nat.le_refl _) _)
          case q2 => first | omega | (simp; omega)
          case q3 => exact RowK.new wr .u8 _ [0] _ rfl
          intro g4 c4 w4 hr4 hb4 hg4
          have HM4 : Hid (RowM .u8 5 w4 g4 c4 (nb b ++ [128] ++ List.replicate (z + 1) 0)) := by
            show RowM _ _ _ _ _ _
            rw [HZ1.out]
            exact hr4
          have HB4 : Hid (Below W.heap.size W w4) := (HB.out.alloc hbW _).trans hb4
          clear hr4 hb4 HM HB
          go_wp2_with fail
          go_roundw
          case rel => exact ⟨g4, c4, z + 1, by rw [HLz.out]; rfl, by omega, hg4, HM4, HB4⟩
          case measure => have := HLz.out; simp [lenV]; omega
        · have hr56 : ((r : Int) != 56) = false := by simp; omega
          obtain rfl : z = padZ n := by omega
          have hLb : L ≤ 1000000 := by omega
          obtain ⟨P, hP⟩ : ∃ P, nb b ++ [128] ++ List.replicate (padZ n) 0 = P := ⟨_, rfl⟩
          rw [hP] at HLn HM HPd
          have HL8 : Hid (L + 8 = 64 * many n) := by
            have h1 := HPl.out
            rw [HPd.out, List.length_append, be_length, HLn.out] at h1
            exact h1
          obtain ⟨N, hN⟩ : ∃ N, n * 8 = N := ⟨_, rfl⟩
          have hNb : N ≤ 8000000 := by omega
          rw [hN] at HPd
          have wn : IntKind.u64.wrap (n : Int) = (n : Int) := wrapU (by omega) (by omega)
          have wn8 : (n : Int) * 8 = (N : Int) := by omega
          have wN : IntKind.u64.wrap (N : Int) = (N : Int) := wrapU (by omega) (by omega)
          have hbs : b.size = n := HBs.out
          clear hP hL hr hpd hpz hlt hz hrE
          go_wp2_with fail
          go_loopw [7, 9] (fun mv iv wx => ∃ (j g c : Nat) (i : Int), j ≤ 8 ∧ iv = .int .i64 i ∧ i = (j : Int) - 1 ∧ mv = .slice (some ⟨g, 0, none⟩) (L + (8 - j)) c ∧ W.heap.size ≤ g ∧ Hid (RowM .u8 5 wx g c (P ++ be N (8 - j))) ∧ Hid (Below W.heap.size W wx)) (fun _ iv _ => (intOf iv + 1).toNat)
          case atStart => exact ⟨8, g, c, 7, by omega, rfl, by omega, rfl, hg, by show RowM _ _ _ _ _ _; rw [show be N (8 - 8) = [] from rfl, List.append_nil]; exact HM.out, HB⟩
          case round =>
            clear hg HM HB
            obtain ⟨j, g, c, i, hj, rfl, hi, rfl, hg, HM, HB⟩ := hrel
            have hbW : W.heap.size ≤ wr.heap.size := HB.out.size
            cases j with
            | succ k =>
              have hi' : i = (k : Int) := by omega
              subst hi'
              clear hi
              obtain ⟨t, ht⟩ : ∃ t, 2 ^ (8 * k) = t := ⟨_, rfl⟩
              have ht1 : 1 ≤ t := by rw [← ht]; exact Nat.one_le_two_pow
              obtain ⟨a, ea⟩ : ∃ a, 8 * k = a := ⟨_, rfl⟩
              rw [ea] at ht
              have aI : 8 * (k : Int) = (a : Int) := by omega
              have wa : IntKind.i64.wrap (a : Int) = (a : Int) := wrapI (by omega) (by omega)
              have wa2 : IntKind.u64.wrap (a : Int) = (a : Int) := wrapU (by omega) (by omega)
              have htI : (2 : Int) ^ a = (t : Int) := by rw [← ht]; simp
              obtain ⟨x, hx⟩ : ∃ x, N / t = x := ⟨_, rfl⟩
              have hxI : (N : Int) / (t : Int) = (x : Int) := by rw [← hx]; simp
              obtain ⟨y, hy⟩ : ∃ y, x % 256 = y := ⟨_, rfl⟩
              have hyI : (x : Int) % 256 = (y : Int) := by omega
              have HBe : Hid (be N (8 - k) = be N (8 - (k + 1)) ++ [y]) := by
                show _ = _
                have e1 : 8 - k = (8 - (k + 1)) + 1 := by omega
                rw [e1]
                show _ ++ [N / 2 ^ (8 * (7 - (8 - (k + 1)))) % 256] = _
                have e2 : 8 * (7 - (8 - (k + 1))) = a := by omega
                rw [e2, ht, hx, hy]
              have HLk : Hid ((P ++ be N (8 - (k + 1))).length = L + (8 - (k + 1))) := by show _ = _; rw [List.length_append, be_length, HLn.out]
              have HLe : Hid (L + (8 - (k + 1)) + 1 = L + (8 - k)) := by show _ = _; omega
              obtain ⟨m, em⟩ : ∃ m, L + (8 - (k + 1)) = m := ⟨_, rfl⟩
              rw [em] at HLk HLe ⊢
              have hm : m ≤ 2000000 := by omega
              have wk : IntKind.i64.wrap ((k : Int) - 1) = (k : Int) - 1 := wrapI (by omega) (by omega)
              clear em hx hy ht ea
              obtain ⟨Z, hZ⟩ : ∃ Z, P ++ be N (8 - (k + 1)) = Z := ⟨_, rfl⟩
              have HZ1 : Hid (P ++ be N (8 - k) = Z ++ [y]) := by show _ = _; rw [HBe.out, ← List.append_assoc, hZ]
              rw [hZ] at HLk HM
              clear hZ
              go_wp2_with (at_builtin; go_must (refine wpList_numsM okU8 rfl _ _ rfl W.heap.size Z [y] g m c rfl ?q1 HLk.out (by omega) hg ?q2 wr.heap.size 1 rfl rfl (by omega) ?q3 ?_))
              case q1 => exact HM.out.below ((Below.refl _ _).alloc (Nat.le_refl _) _)
              case q2 => first | omega | (simp; omega)
              case q3 => exact RowK.new wr .u8 _ [y] _ rfl
              intro g4 c4 w4 hr4 hb4 hg4
              have HM4 : Hid (RowM .u8 5 w4 g4 c4 (P ++ be N (8 - k))) := by
                show RowM _ _ _ _ _ _
                rw [HZ1.out]
                exact hr4
              have HB4 : Hid (Below W.heap.size W w4) := (HB.out.alloc hbW _).trans hb4
              clear hr4 hb4 HM HB
              go_wp2_with fail
              go_roundw
              case rel => exact ⟨k, g4, c4, (k : Int) - 1, by omega, rfl, rfl, by rw [HLe.out], hg4, HM4, HB4⟩
              case measure => simp [intOf]
            | zero =>
              have hi' : i = -1 := by omega
              subst hi'
              clear hi
              have hM := HM.out
              rw [show 8 - 0 = 8 from rfl, ← HPd.out] at hM
              rw [show 8 - 0 = 8 from rfl]
              obtain ⟨T, hT⟩ : ∃ T, L + 8 = T := ⟨_, rfl⟩
              have HL8' := HL8.out
              rw [hT] at HL8' ⊢
              have HTm : Hid (T = 64 * many n) := HL8'
              have hTb : T ≤ 2000000 := by omega
              have HM0 : Hid (RowM .u8 5 wr g c PM) := hM
              have HSu : Hid (RowK .u32 77 wr gs (blks H0 PM 0)) := HS0.out.below HB.out
              have HKu : Hid (RowK .u32 77 wr gk K) := HK0.out.below HB.out
              obtain ⟨V, hV⟩ : ∃ V, V = wr := ⟨_, rfl⟩
              subst hV
              have HBv : Hid (Below w.heap.size w V) := HB0.out.trans (HB.out.mono HB0.out.size)
              have hMc := hM.room
              rw [HPl.out, ← HTm.out] at hMc
              unfold maxLen at hMc
              obtain ⟨hMc1, hMc2⟩ := hMc
              have hPMl : Hid (PM.length = T) := by show _ = _; rw [HPl.out, ← HTm.out]
              clear hM HM HB HS0 HK0 HB0 HLn HL8 HL8' hT hj hg wn wn8 wN HPd HNb HBs hbs hLb hrT hr56
              go_wp2_with fail
              go_loopw [4, 10] (fun sv iv wx => ∃ (i g1 c1 : Nat), i ≤ many n ∧ iv = .int .i64 ((64 * i : Nat) : Int) ∧ sv = .slice (some ⟨g1, 0, none⟩) 8 c1 ∧ Hid (RowK .u32 77 wx g1 (blks H0 PM i)) ∧ Hid (Below V.heap.size V wx)) (fun _ iv _ => T - (intOf iv).toNat)
              case atStart => exact ⟨0, gs, _, Nat.zero_le _, rfl, rfl, HSu, Below.refl _ _⟩
              case round =>
                clear HSu
                obtain ⟨i, g1, c1, hi, rfl, rfl, HX, HB⟩ := hrel
                obtain ⟨hX8, hXs⟩ := blks_ok PM H0_length H0_small i
                obtain ⟨X, hX⟩ : ∃ X, blks H0 PM i = X := ⟨_, rfl⟩
                have HXn : Hid (blks H0 PM (i + 1) = blk X (chunk PM i)) := by show blk _ _ = _; rw [hX]
                rw [hX] at HX hX8 hXs
                have hT64 := HTm.out
                obtain ⟨a, ha⟩ : ∃ a, 64 * i = a := ⟨_, rfl⟩
                rw [ha]
                by_cases hlt : i < many n
                · have hlI : (a : Int) < (T : Int) := by omega
                  have hch := chunk_length HPl.out hlt
                  have hcb := chunk_bytes HPb.out i
                  have HMx := HM0.out.below HB.out
                  have HBI : BytesIn wr g a (chunk PM i) := ⟨HMx.lt, fun j x h => by
                    rw [← ha]
                    exact HMx.cell (chunk_at h)⟩
                  have HC : Hid (∀ cm2 u, Below wr.heap.size wr u → Calls Tryd.prog 41 #[.slice (some ⟨g1, 0, none⟩) 8 c1, .slice (some ⟨gk, 0, none⟩) 64 d, .slice (some ⟨g, a, none⟩) 64 cm2] u (BlkR u (blk X (chunk PM i)))) := fun cm2 u hu => block_any g1 c1 gk d g a cm2 X (chunk PM i) u (HX.out.below hu) hX8 hXs ((HKu.out.below HB.out).below hu) (HBI.below hu) hch hcb
                  have wa : IntKind.i64.wrap ((a : Int) + 64) = (a : Int) + 64 := wrapI (by omega) (by omega)
                  have ha1 : a + 64 ≤ c := by omega
                  have ha2 : (a : Int) + 64 ≤ (c : Int) := by omega
                  have ha0 : (0 : Int) ≤ (a : Int) := by omega
                  have ha3 : (a : Int) ≤ (a : Int) + 64 := by omega
                  have HA1 : Hid (a + 64 = 64 * (i + 1)) := by show _ = _; omega
                  clear hX8 hXs hch hcb HMx HBI hX ha hT64
                  go_wp2_with (go_at_call 41; go_must (refine (HC.out _ _ (Below.refl _ _)).mono ?_; rintro y w5 ⟨g5, c5, rfl, hc5, hc5', hr5, hg5, hb5⟩))
                  have HX5 : Hid (RowK .u32 77 w5 g5 (blks H0 PM (i + 1))) := by show RowK _ _ _ _ _; rw [HXn.out]; exact hr5
                  have HB5 : Hid (Below V.heap.size V w5) := HB.out.trans (hb5.mono HB.out.size)
                  clear hr5 hb5 HX HB HC hc5 hc5' hg5
                  go_wp2_with fail
                  go_roundw
                  case rel => exact ⟨i + 1, g5, c5, by omega, by rw [← HA1.out]; rfl, rfl, HX5, HB5⟩
                  case measure => simp [intOf]; omega
                · obtain rfl : i = many n := by omega
                  have hlI : ¬ (a : Int) < (T : Int) := by omega
                  have HDX : Hid (dig (nb b) = X.flatMap b4) := by show _ = _; rw [HD.out, hX]
                  have HX8 : Hid (X.length = 8) := hX8
                  have HXs : Hid (Small X) := hXs
                  obtain ⟨U, hU⟩ : ∃ U, U = wr := ⟨_, rfl⟩
                  subst hU
                  have HBU : Hid (Below w.heap.size w U) := HBv.out.trans (HB.out.mono HBv.out.size)
                  have HXU : Hid (RowK .u32 77 U g1 X) := HX.out
                  have hg1U : g1 < U.heap.size := HX.out.lt
                  clear hT64 hX8 hXs hX HX HB hlt hi HXn HD HM0 HKu HBv HPb HPl hPMl
                  go_wp2_with fail
                  go_loopw [11, 12] (fun ov iv wx => ∃ (i c : Nat) (A : Option Addr), i ≤ 8 ∧ iv = .int .i64 i ∧ ov = .slice A (4 * i) c ∧ Hid (wx.ownsRow U.heap.size 5 1 (.slice A (4 * i) c) (4 * i) (flat (enK .u8) ((X.take i).flatMap b4))) ∧ Hid (Below U.heap.size U wx)) (fun _ iv _ => 8 - (intOf iv).toNat)
                  case atStart => exact ⟨0, 0, none, by omega, rfl, rfl, own_nil, Below.refl _ _⟩
                  case round =>
                    obtain ⟨i, c2, A2, hi, rfl, rfl, HO, HB⟩ := hrel
                    by_cases hi8 : i < 8
                    · have hiI : (i : Int) < 8 := by omega
                      have hXi : i < X.length := by rw [HX8.out]; exact hi8
                      obtain ⟨x, hx⟩ : ∃ x, X[i]? = some x := ⟨_, List.getElem?_eq_getElem hXi⟩
                      have hxs : x < 4294967296 := HXs.out.at hx
                      have hce := (HXU.out.below HB.out).cell hx
                      have HXn : Hid ((X.take (i + 1)).flatMap b4 = (X.take i).flatMap b4 ++ b4 x) := by
                        obtain ⟨h1, h2⟩ := List.getElem?_eq_some_iff.1 hx
                        show _ = _
                        rw [List.take_succ_eq_append_getElem h1, List.flatMap_append, h2]
                        simp
                      obtain ⟨y0, ey0⟩ : ∃ y, x / 16777216 = y := ⟨_, rfl⟩
                      obtain ⟨q1, eq1⟩ : ∃ y, x / 65536 = y := ⟨_, rfl⟩
                      obtain ⟨y1, ey1⟩ : ∃ y, q1 % 256 = y := ⟨_, rfl⟩
                      obtain ⟨q2, eq2⟩ : ∃ y, x / 256 = y := ⟨_, rfl⟩
                      obtain ⟨y2, ey2⟩ : ∃ y, q2 % 256 = y := ⟨_, rfl⟩
                      obtain ⟨y3, ey3⟩ : ∃ y, x % 256 = y := ⟨_, rfl⟩
                      have HY : Hid (b4 x = [y0, y1, y2, y3]) := by show _ = _; unfold b4; rw [ey0, eq1, ey1, eq2, ey2, ey3]
                      have f0 : (x : Int) / 16777216 = (y0 : Int) := by omega
                      have f1 : (x : Int) / 65536 = (q1 : Int) := by omega
                      have f2 : (x : Int) / 256 = (q2 : Int) := by omega
                      have g0 : (y0 : Int) % 256 = (y0 : Int) := by omega
                      have g1' : (q1 : Int) % 256 = (y1 : Int) := by omega
                      have g2 : (q2 : Int) % 256 = (y2 : Int) := by omega
                      have g3 : (x : Int) % 256 = (y3 : Int) := by omega
                      have k0 : IntKind.u8.wrap (y0 : Int) = (y0 : Int) := by simp [IntKind.wrap, IntKind.bits, IntKind.signed]; omega
                      have k1 : IntKind.u8.wrap (q1 : Int) = (y1 : Int) := by simp [IntKind.wrap, IntKind.bits, IntKind.signed]; omega
                      have k2 : IntKind.u8.wrap (q2 : Int) = (y2 : Int) := by simp [IntKind.wrap, IntKind.bits, IntKind.signed]; omega
                      have k3 : IntKind.u8.wrap (x : Int) = (y3 : Int) := by simp [IntKind.wrap, IntKind.bits, IntKind.signed]; omega
                      obtain ⟨m, hm⟩ : ∃ m, 4 * i = m := ⟨_, rfl⟩
                      have HM : Hid (m + 4 = 4 * (i + 1)) := by show _ = _; omega
                      have hmb : m ≤ 1000 := by omega
                      obtain ⟨Z, hZ⟩ : ∃ Z, (X.take i).flatMap b4 = Z := ⟨_, rfl⟩
                      rw [hm, hZ] at HO
                      rw [hm]
                      rw [HY.out, hZ] at HXn
                      have HOu : Hid (∀ u, Below wr.heap.size wr u → u.ownsRow U.heap.size 5 1 (.slice A2 m c2) m (flat (enK .u8) Z)) := fun u hu => ownsRow_block HO.out fun k hk => hu.block k (World.ownsRow.lt HO.out k hk).2
                      have hUw : U.heap.size ≤ wr.heap.size := HB.out.size
                      clear ey0 eq1 ey1 eq2 ey2 ey3 hm hZ hXi HO HY
                      go_wp2_with fail
                      go_region_held3 (fun u => u.cell? ⟨g1, i, none⟩ = some (.int .u32 (x : Int))) (go_keep)
                        ((refine step_nums okU8 (by rfl) _ _ (by rfl) U.heap.size Z [y0, y1, y2, y3] A2 m c2 (by rfl) (HOu.out _ (by go_grown)) (by omega) (by first | omega | (simp; omega)) wr.heap.size 4 (by rfl) (by rfl) (by omega) (by first | exact RowK.new wr .u8 _ _ _ rfl | exact RowK.new wr.drew .u8 _ _ _ rfl) ?_; intro A3 c3 w3 ho3 hb3; have hce3 : w3.cell? ⟨g1, i, none⟩ = some (.int .u32 (x : Int)) := (hb3.cell (p := ⟨g1, i, none⟩) hg1U).trans (by go_keep)))
                      have HO4 : Hid (w3.ownsRow U.heap.size 5 1 (.slice A3 (m + 4) c3) (m + 4) (flat (enK .u8) ((X.take (i + 1)).flatMap b4))) := by show World.ownsRow _ _ _ _ _ _ _; rw [HXn.out]; exact ho3
                      have HB4 : Hid (Below U.heap.size U w3) := (show Below U.heap.size U _ by have hBw := HB.out; go_grown).trans hb3
                      clear ho3 hb3 hce3 HOu HB
                      go_wp2_with fail
                      go_roundw
                      case rel => exact ⟨i + 1, c3, A3, by omega, by go_num, by rw [← HM.out], by rw [← HM.out]; exact HO4, HB4⟩
                      case measure => simp [intOf]; omega
                    · obtain rfl : i = 8 := by omega
                      have hiI : ¬ ((8 : Nat) : Int) < 8 := by omega
                      have hO := HO.out
                      rw [List.take_of_length_le (by rw [HX8.out]; omega), ← HDX.out] at hO
                      have hst := str_own hO (dig_bytes _) (dig_length _)
                      have HR : Hid (SumR w (dig (nb b)) (.returned (.string (ofN (dig (nb b))))) wr) := ⟨rfl, HBU.out.trans (HB.out.mono HBU.out.size)⟩
                      clear hO HO HB
                      go_wp2_with fail
                      go_ret
                      exact HR.out
end Go.Proofs.YtibglhlhogfdnaaDoor
