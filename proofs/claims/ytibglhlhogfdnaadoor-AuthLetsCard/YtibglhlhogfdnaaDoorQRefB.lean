/- Layer 24: the document's block. -/
import Derived.Test.YtibglhlhogfdnaaDoorQRefP
import Derived.Test.YtibglhlhogfdnaaDoorQBlk
import Derived.BigRegion
import Derived.BigQuiet
import Derived.Deep.RegionHeld3
namespace Go.Proofs.YtibglhlhogfdnaaDoor
open Go.RowKit QP

theorem make_u32 : ∃ C : Array Value, C.toList = flat (enK .u32) (List.replicate 64 0) ∧ ∀ w : World, (Instr.makeSlice 76 (.int .i64 64) (.int .i64 64)).run Tryd.prog w = .ok (.slice (some ⟨w.heap.size, 0, none⟩) 64 64) (w.alloc (.cells C 77)) := by
  obtain ⟨i0, hi, hz0, hz1, hz2⟩ := info_parts okU32.info
  refine ⟨madeCells (Value.int .u32 0).cells ((64 : Int).toNat * i0.size), ?_, fun W => ?_⟩
  · rw [hz1]
    kernel_rfl
  · have h := run_make (P := Tryd.prog) W 76 77 i0 (.int .u32 0) Tryd.underlying76 hi hz0 .i64 .i64 64 64 (by omega) (by omega) (by rw [hz2]; omega) (by omega)
    simpa using h
/-- bytes that stand in a row from a place on -/
def BytesIn (w : World) (g at0 : Nat) (m : List Nat) : Prop := g < w.heap.size ∧ ∀ (i x : Nat), m[i]? = some x → w.cell? ⟨g, at0 + i, none⟩ = some (.int .u8 (x : Int))
theorem BytesIn.below {w w' : World} {g a : Nat} {m : List Nat} (h : BytesIn w g a m) (hb : Below w.heap.size w w') : BytesIn w' g a m := ⟨Nat.lt_of_lt_of_le h.1 hb.size, fun i x hx => (hb.cell (p := ⟨g, a + i, none⟩) h.1).trans (h.2 i x hx)⟩

theorem quiet_more {P : Program} {f : FuncId} {args : Array Value} {w : World} {m x : Nat} {v : Value}
    (h : Calls P f args (w.drewN (m + x)) fun e w' => e = .returned v ∧ ∃ k, w' = (w.drewN (m + x)).drewN k) : Calls P f args (w.drewN (m + x)) fun e w'' => e = .returned v ∧ ∃ n, w'' = w.drewN (m + n) :=
  h.mono fun _ _ ⟨he, k, hk⟩ => ⟨he, x + k, by rw [hk, World.drewN_drewN, Nat.add_assoc]⟩

theorem quiet_more_same {P : Program} {f : FuncId} {args : Array Value} {w : World} {m x : Nat} {v : Value}
    (h : Calls P f args (w.drewN (m + x)) fun e w' => e = .returned v ∧ w' = w.drewN (m + x)) : Calls P f args (w.drewN (m + x)) fun e w'' => e = .returned v ∧ ∃ n, w'' = w.drewN (m + n) :=
  h.mono fun _ _ ⟨he, hk⟩ => ⟨he, x, hk⟩
theorem not_is {e : Nat} (h : e < 4294967296) : 4294967295 ^^^ e = 4294967295 - e := by
  have h1 := congrArg BitVec.toNat (BitVec.allOnes_xor (x := BitVec.ofNat 32 e))
  rw [BitVec.toNat_xor, BitVec.toNat_not, BitVec.toNat_allOnes, BitVec.toNat_ofNat, Nat.mod_eq_of_lt h] at h1
  exact h1
theorem K_length : K.length = 64 := by rw [K_is]; rfl
theorem K_small : Small K := by
  have h : K.all (fun x => decide (x < 4294967296)) = true := by rw [K_is]; rfl
  exact fun x hx => of_decide_eq_true (List.all_eq_true.1 h x hx)

/-- what a block tells -/
def BlkR (w : World) (X : List Nat) (e : Ending) (w' : World) : Prop := ∃ g c, e = .returned (.slice (some ⟨g, 0, none⟩) 8 c) ∧ 8 ≤ c ∧ c ≤ 9223372036854775807 ∧ RowK .u32 77 w' g X ∧ w.heap.size ≤ g ∧ Below w.heap.size w w'

set_option maxRecDepth 100000 in
set_option maxHeartbeats 4000000 in
theorem block_any (gs cs gk ck gm at0 cm : Nat) (S m : List Nat) (w : World) (hS : RowK .u32 77 w gs S) (hS8 : S.length = 8) (hSs : Small S) (hK : RowK .u32 77 w gk K) (hm : BytesIn w gm at0 m) (hm64 : m.length = 64) (hmb : ∀ x ∈ m, x < 256) :
    Calls Tryd.prog 41 #[.slice (some ⟨gs, 0, none⟩) 8 cs, .slice (some ⟨gk, 0, none⟩) 64 ck, .slice (some ⟨gm, at0, none⟩) 64 cm] w (BlkR w (blk S m)) := by
  obtain ⟨C, hC, hmk⟩ := make_u32
  have HR0 : Hid (RowK .u32 77 (w.alloc (.cells C 77)) w.heap.size (part64 [])) := RowK.new w .u32 _ _ C hC
  have HMB : Hid (BytesIn w gm at0 m) := hm
  have HS : Hid (RowK .u32 77 w gs S) := hS
  have HK : Hid (RowK .u32 77 w gk K) := hK
  have Hm64 : Hid (m.length = 64) := hm64
  have HS8 : Hid (S.length = 8) := hS8
  have HSs : Hid (Small S) := hSs
  have Hmb : Hid (∀ x ∈ m, x < 256) := hmb
  clear hS hK hm hm64 hS8 hSs hmb hC
  go_enter Tryd.func41, Tryd.ntmps41
  go_wp2_with fail
  go_loopw [8] (fun tv wr => ∃ t : Nat, t ≤ 16 ∧ tv = .int .i64 t ∧ Hid (RowK .u32 77 wr w.heap.size (part64 (f16 m t))) ∧ Hid (Below w.heap.size w wr)) (fun tv _ => 16 - (intOf tv).toNat)
  case atStart => exact ⟨0, by omega, rfl, HR0, (Below.refl _ _).alloc (Nat.le_refl _) _⟩
  case round =>
    obtain ⟨t, ht, rfl, HW, HB⟩ := hrel
    clear HR0
    by_cases hlt : t < 16
    · have hlI : (t : Int) < 16 := by omega
      have hMB : BytesIn wr gm at0 m := HMB.out.below HB.out
      have key : ∀ i, i < 4 → ∃ x, m.getD (4 * t + i) 0 = x ∧ x < 256 ∧ wr.cell? ⟨gm, at0 + (4 * t + i), none⟩ = some (.int .u8 (x : Int)) := fun i hi => by
        have hl : 4 * t + i < m.length := by rw [Hm64.out]; omega
        exact ⟨m[4 * t + i], by simp [hl], Hmb.out _ (List.getElem_mem hl), hMB.2 _ _ (List.getElem?_eq_getElem hl)⟩
      obtain ⟨c0, g0, b0, d0⟩ := key 0 (by omega)
      obtain ⟨c1, g1, b1, d1⟩ := key 1 (by omega)
      obtain ⟨c2, g2, b2, d2⟩ := key 2 (by omega)
      obtain ⟨c3, g3, b3, d3⟩ := key 3 (by omega)
      rw [Nat.add_zero] at d0 g0
      have HW4 : Hid (wordAt m t = w4 c0 c1 c2 c3) := by show _ = _; unfold wordAt; rw [g0, g1, g2, g3]
      have hlen := f16_length m t
      have hl64 : t < (part64 (f16 m t)).length := by rw [part64_length (by omega)]; omega
      have hfz := HW.out.frozen t
      have hce := HW.out.cell (i := t) (x := _) (List.getElem?_eq_getElem hl64)
      obtain ⟨z0, hz0⟩ : ∃ z, (part64 (f16 m t))[t] = z := ⟨_, rfl⟩
      rw [hz0] at hce
      obtain ⟨p1, ep1⟩ : ∃ p, c0 * 16777216 ||| c1 * 65536 = p := ⟨_, rfl⟩
      obtain ⟨p2, ep2⟩ : ∃ p, p1 ||| c2 * 256 = p := ⟨_, rfl⟩
      obtain ⟨p3, ep3⟩ : ∃ p, p2 ||| c3 = p := ⟨_, rfl⟩
      have hp1 : p1 < 4294967296 := by rw [← ep1]; exact or_lt (by omega) (by omega)
      have hp2 : p2 < 4294967296 := by rw [← ep2]; exact or_lt hp1 (by omega)
      have o1 : bits .or .u32 ((c0 : Int) * 16777216) ((c1 : Int) * 65536) = (p1 : Int) := by
        have := u32_or_nat (c0 * 16777216) (c1 * 65536) (by omega) (by omega)
        rw [ep1] at this
        simpa using this
      have o2 : bits .or .u32 (p1 : Int) ((c2 : Int) * 256) = (p2 : Int) := by
        have := u32_or_nat p1 (c2 * 256) hp1 (by omega)
        rw [ep2] at this
        simpa using this
      have o3 : bits .or .u32 (p2 : Int) (c3 : Int) = (p3 : Int) := by rw [u32_or_nat p2 c3 hp2 (by omega), ep3]
      have HN : Hid (RowK .u32 77 (wr.drew.setCell ⟨w.heap.size, t, none⟩ (.int .u32 (p3 : Int))) w.heap.size (part64 (f16 m (t + 1)))) := by
        have h1 := (show RowK .u32 77 wr.drew w.heap.size (part64 (f16 m t)) from HW.out).set hl64 p3
        have h2 := part64_set (W := f16 m t) (by omega) p3
        rw [hlen] at h2
        rw [h2] at h1
        have h3 : f16 m (t + 1) = f16 m t ++ [p3] := by
          show f16 m t ++ [wordAt m t] = _
          rw [HW4.out, ← ep3, ← ep2, ← ep1]
          rfl
        show RowK _ _ _ _ _
        rw [h3]
        exact h1
      have HB2 : Hid (Below w.heap.size w (wr.drew.setCell ⟨w.heap.size, t, none⟩ (.int .u32 (p3 : Int)))) := (HB.out.trans ((below_drewN wr 1).mono HB.out.size)).setCell (p := ⟨w.heap.size, t, none⟩) (Nat.le_refl _) _
      clear key hMB g0 g1 g2 g3 hz0 ep1 ep2 ep3 HW4 hlen hl64 hp1 hp2
      go_wp2_with fail
      go_region
      go_wp2_with fail
      go_roundw
      case rel => exact ⟨t + 1, by omega, by go_num, HN, HB2⟩
      case measure => simp [intOf]; omega
    · obtain rfl : t = 16 := by omega
      have HW1 : Hid (RowK .u32 77 wr w.heap.size (part64 (sch m 0))) := HW.out
      have HB1 : Hid (Below w.heap.size w wr) := HB.out
      clear HW HB hlt ht HMB
      rw [show ((16 : Nat) : Int) = 16 from rfl]
      go_wp2_with fail
      go_loopw [9] (fun tv wr => ∃ (t n : Nat), tv = .int .i64 t ∧ t ≤ 64 ∧ Hid (t = 16 + n) ∧ Hid (RowK .u32 77 wr w.heap.size (part64 (sch m n))) ∧ Hid (Below w.heap.size w wr)) (fun tv _ => 64 - (intOf tv).toNat)
      case atStart => exact ⟨16, 0, rfl, by omega, (rfl : _ = _), HW1, HB1⟩
      case round =>
        clear HW1 HB1
        obtain ⟨t, n, rfl, ht, HTn, HW, HB⟩ := hrel
        by_cases hlt : t < 64
        · have hlI : (t : Int) < 64 := by omega
          have htn := HTn.out
          have hlen := sch_length m n
          have hsm := sch_small Hmb.out n
          obtain ⟨W, hWe⟩ : ∃ W, sch m n = W := ⟨_, rfl⟩
          have HNs : Hid (sch m (n + 1) = W ++ [nxt W]) := by show _ ++ _ = _; rw [hWe]
          rw [hWe] at HW hlen hsm
          have key : ∀ i, 0 < i → i ≤ 16 → ∃ x, W.getD (W.length - i) 0 = x ∧ x < 4294967296 ∧ wr.cell? ⟨w.heap.size, t - i, none⟩ = some (.int .u32 (x : Int)) := fun i hi0 hi => by
            have hl : t - i < W.length := by omega
            refine ⟨W[t - i], ?_, hsm _ (List.getElem_mem hl), HW.out.cell (part64_at (List.getElem?_eq_getElem hl))⟩
            rw [hlen, ← htn]
            simp [hl]
          obtain ⟨x15, g15, b15, d15⟩ := key 15 (by omega) (by omega)
          obtain ⟨x2, g2, b2, d2⟩ := key 2 (by omega) (by omega)
          obtain ⟨x7, g7, b7, d7⟩ := key 7 (by omega) (by omega)
          obtain ⟨x16, g16, b16, d16⟩ := key 16 (by omega) (by omega)
          have HNx : Hid (nxt W = nxtW x15 x2 x7 x16) := by show _ = _; unfold nxt; rw [g15, g2, g7, g16]
          have hl64 : t < (part64 W).length := by rw [part64_length (by omega)]; omega
          have hfz := HW.out.frozen t
          have hce := HW.out.cell (i := t) (x := _) (List.getElem?_eq_getElem hl64)
          obtain ⟨z0, hz0⟩ : ∃ z, (part64 W)[t] = z := ⟨_, rfl⟩
          rw [hz0] at hce
          obtain ⟨a15, ea15⟩ : ∃ a, t - 15 = a := ⟨_, rfl⟩
          obtain ⟨a2, ea2⟩ : ∃ a, t - 2 = a := ⟨_, rfl⟩
          obtain ⟨a7, ea7⟩ : ∃ a, t - 7 = a := ⟨_, rfl⟩
          obtain ⟨a16, ea16⟩ : ∃ a, t - 16 = a := ⟨_, rfl⟩
          rw [ea15] at d15
          rw [ea2] at d2
          rw [ea7] at d7
          rw [ea16] at d16
          have i15 : (t : Int) - 15 = (a15 : Int) := by omega
          have i2 : (t : Int) - 2 = (a2 : Int) := by omega
          have i7 : (t : Int) - 7 = (a7 : Int) := by omega
          have i16 : (t : Int) - 16 = (a16 : Int) := by omega
          have k15 : a15 < 64 := by omega
          have k2 : a2 < 64 := by omega
          have k7 : a7 < 64 := by omega
          have k16 : a16 < 64 := by omega
          obtain ⟨r7, er7⟩ : ∃ r, rot x15 7 = r := ⟨_, rfl⟩
          have hr7 : r7 < 4294967296 := by rw [← er7]; exact rot_lt b15
          have T7 : Hid (∀ u, Calls Tryd.prog 54 #[.int .u32 x15, .int .u64 7] u fun e w' => e = .returned (.int .u32 (r7 : Nat)) ∧ w' = u) := fun u => er7 ▸ turn_any x15 7 u b15 (by omega) (by omega)
          obtain ⟨r18, er18⟩ : ∃ r, rot x15 18 = r := ⟨_, rfl⟩
          have hr18 : r18 < 4294967296 := by rw [← er18]; exact rot_lt b15
          have T18 : Hid (∀ u, Calls Tryd.prog 54 #[.int .u32 x15, .int .u64 18] u fun e w' => e = .returned (.int .u32 (r18 : Nat)) ∧ w' = u) := fun u => er18 ▸ turn_any x15 18 u b15 (by omega) (by omega)
          obtain ⟨r17, er17⟩ : ∃ r, rot x2 17 = r := ⟨_, rfl⟩
          have hr17 : r17 < 4294967296 := by rw [← er17]; exact rot_lt b2
          have T17 : Hid (∀ u, Calls Tryd.prog 54 #[.int .u32 x2, .int .u64 17] u fun e w' => e = .returned (.int .u32 (r17 : Nat)) ∧ w' = u) := fun u => er17 ▸ turn_any x2 17 u b2 (by omega) (by omega)
          obtain ⟨r19, er19⟩ : ∃ r, rot x2 19 = r := ⟨_, rfl⟩
          have hr19 : r19 < 4294967296 := by rw [← er19]; exact rot_lt b2
          have T19 : Hid (∀ u, Calls Tryd.prog 54 #[.int .u32 x2, .int .u64 19] u fun e w' => e = .returned (.int .u32 (r19 : Nat)) ∧ w' = u) := fun u => er19 ▸ turn_any x2 19 u b2 (by omega) (by omega)
          obtain ⟨q1, eq1⟩ : ∃ q, r7 ^^^ r18 = q := ⟨_, rfl⟩
          obtain ⟨q2, eq2⟩ : ∃ q, r17 ^^^ r19 = q := ⟨_, rfl⟩
          obtain ⟨f0, ef0⟩ : ∃ q, q1 ^^^ x15 / 8 = q := ⟨_, rfl⟩
          obtain ⟨f1, ef1⟩ : ∃ q, q2 ^^^ x2 / 1024 = q := ⟨_, rfl⟩
          have hq1 : q1 < 4294967296 := by rw [← eq1]; exact xor_lt hr7 hr18
          have hq2 : q2 < 4294967296 := by rw [← eq2]; exact xor_lt hr17 hr19
          have hf0 : f0 < 4294967296 := by rw [← ef0]; exact xor_lt hq1 (by omega)
          have hf1 : f1 < 4294967296 := by rw [← ef1]; exact xor_lt hq2 (by omega)
          have u1 : bits .xor .u32 (r7 : Int) (r18 : Int) = (q1 : Int) := by rw [u32_xor_nat r7 r18 hr7 hr18, eq1]
          have u2 : bits .xor .u32 (r17 : Int) (r19 : Int) = (q2 : Int) := by rw [u32_xor_nat r17 r19 hr17 hr19, eq2]
          have u3 : bits .xor .u32 (q1 : Int) ((x15 : Int) / 8) = (f0 : Int) := by
            have := u32_xor_nat q1 (x15 / 8) hq1 (by omega)
            rw [ef0] at this
            simpa using this
          have u4 : bits .xor .u32 (q2 : Int) ((x2 : Int) / 1024) = (f1 : Int) := by
            have := u32_xor_nat q2 (x2 / 1024) hq2 (by omega)
            rw [ef1] at this
            simpa using this
          obtain ⟨y, ey⟩ : ∃ y, (f1 + x7 + f0 + x16) % 4294967296 = y := ⟨_, rfl⟩
          have u5 : ((f1 : Int) + (x7 : Int) + (f0 : Int) + (x16 : Int)) % 4294967296 = (y : Int) := by omega
          have hy : y = nxt W := by
            rw [HNx.out, ← ey, ← ef0, ← ef1, ← eq1, ← eq2, ← er7, ← er18, ← er17, ← er19]
            rfl
          have HN : Hid (RowK .u32 77 (wr.setCell ⟨w.heap.size, t, none⟩ (.int .u32 (y : Int))).drew.drew w.heap.size (part64 (sch m (n + 1)))) := by
            have h1 := HW.out.set hl64 y
            have h2 := part64_set (W := W) (by omega) y
            rw [hlen, ← htn] at h2
            rw [h2] at h1
            show RowK _ _ _ _ _
            rw [HNs.out, ← hy]
            exact h1
          have HB2 : Hid (Below w.heap.size w (wr.setCell ⟨w.heap.size, t, none⟩ (.int .u32 (y : Int))).drew.drew) := (HB.out.setCell (p := ⟨w.heap.size, t, none⟩) (Nat.le_refl _) _).trans ((below_drewN (wr.setCell ⟨w.heap.size, t, none⟩ (.int .u32 (y : Int))) 2).mono (HB.out.setCell (p := ⟨w.heap.size, t, none⟩) (Nat.le_refl _) _).size)
          have HT2 : Hid (t + 1 = 16 + (n + 1)) := by show _ = _; omega
          clear key g15 g2 g7 g16 hz0 ea15 ea2 ea7 ea16 hlen htn er7 er18 er17 er19 hr7 hr18 hr17 hr19 eq1 eq2 ef0 ef1 hq1 hq2 hy ey hl64 hsm hWe
          go_wp2_with fail
          go_region
          go_wp2_with fail
          refine (T7.out _).mono ?_
          rintro y w2 ⟨rfl, rfl⟩
          go_wp2_with fail
          refine (T18.out _).mono ?_
          rintro y w2 ⟨rfl, rfl⟩
          go_wp2_with fail
          refine (T17.out _).mono ?_
          rintro y w2 ⟨rfl, rfl⟩
          go_wp2_with fail
          refine (T19.out _).mono ?_
          rintro y w2 ⟨rfl, rfl⟩
          go_wp2_with fail
          go_region
          go_wp2_with fail
          go_roundw
          case rel => exact ⟨t + 1, n + 1, by go_num, by omega, HT2, HN, HB2⟩
          case measure => simp [intOf]; omega
        · have hn48 : n = 48 := by have := HTn.out; omega
          subst hn48
          obtain rfl : t = 64 := by omega
          have hlI : ¬ ((64 : Nat) : Int) < 64 := by omega
          have hWr := HW.out
          rw [part64_full (sch_length m 48)] at hWr
          obtain ⟨W, hWe⟩ : ∃ W, sch m 48 = W := ⟨_, rfl⟩
          have HWl : Hid (W.length = 64) := by show _ = _; rw [← hWe]; exact sch_length m 48
          have HWs : Hid (Small W) := by show Small _; rw [← hWe]; exact sch_small Hmb.out 48
          have HEnd : Hid (blk S m = adds (rnds W S 64) S) := by show _ = _; unfold blk; rw [hWe]
          rw [hWe] at hWr
          have HW1 : Hid (RowK .u32 77 wr w.heap.size W) := hWr
          have HB1 : Hid (Below w.heap.size w wr) := HB.out
          clear HW HB hlt ht HTn hWr hWe
          have HSa : Hid (RowK .u32 77 wr gs S) := HS.out.below HB1.out
          have hB1 : w.heap.size ≤ wr.heap.size := HB1.out.size
          have hWlt : w.heap.size < wr.heap.size := HW1.out.lt
          go_wp2_with (at_builtin; go_must (refine wpList_nums okU32 rfl _ _ rfl wr.heap.size [] S _ 0 0 rfl (row_empty wr _ _) (by omega) (by simp) gs 8 rfl HS8.out (by omega) ?q3 ?_))
          case q3 => exact HSa.out.below ((Below.refl _ _).alloc (Nat.le_refl _) _)
          intro A' c' w3 ho hb3 _ _
          obtain ⟨gv, rfl, hgv, hrow, hcc1, hcc2⟩ := row_ofK ho (by omega) HS8.out
          have HB13 : Hid (Below wr.heap.size wr w3) := ((Below.refl _ _).alloc (Nat.le_refl _) _).trans hb3
          have HV0 : Hid (RowK .u32 77 w3 gv (rnds W S 0)) := hrow
          have HW3 : Hid (RowK .u32 77 w3 w.heap.size W) := HW1.out.below HB13.out
          have HSw : Hid (RowK .u32 77 w gs S) := HS.out
          have HS3 : Hid (RowK .u32 77 w3 gs S) := HSa.out.below HB13.out
          have HK3 : Hid (RowK .u32 77 w3 gk K) := (HK.out.below HB1.out).below HB13.out
          have HB3 : Hid (Below w.heap.size w w3) := HB1.out.trans (HB13.out.mono hB1)
          have hgv1 : w.heap.size < gv := by omega
          have hgs : gs < w.heap.size := HS.out.lt
          unfold maxLen at hcc2
          clear hrow ho hb3 HB13 HSa HW1 HB1 hgv HK
          go_wp2_with fail
          go_loopw [14, 15] (fun vv tv wx => ∃ (t g c : Nat), t ≤ 64 ∧ tv = .int .i64 t ∧ vv = .slice (some ⟨g, 0, none⟩) 8 c ∧ 8 ≤ c ∧ c ≤ 9223372036854775807 ∧ w.heap.size < g ∧ Hid (RowK .u32 77 wx g (rnds W S t)) ∧ Hid (Below w3.heap.size w3 wx)) (fun _ tv _ => 64 - (intOf tv).toNat)
          case atStart => exact ⟨0, gv, c', by omega, rfl, rfl, by omega, by omega, hgv1, HV0, Below.refl _ _⟩
          case round =>
            clear HV0 hgv1 hcc1 hcc2
            obtain ⟨t, g, c, ht, rfl, rfl, hc1, hc2, hg, HV, HB⟩ := hrel
            have HWx : Hid (RowK .u32 77 wr w.heap.size W) := HW3.out.below HB.out
            have HSx : Hid (RowK .u32 77 wr gs S) := HS3.out.below HB.out
            have HKx : Hid (RowK .u32 77 wr gk K) := HK3.out.below HB.out
            have HBx : Hid (Below w.heap.size w wr) := HB3.out.trans (HB.out.mono HB3.out.size)
            by_cases hlt : t < 64
            · have hlI : (t : Int) < 64 := by omega
              obtain ⟨hV8, hVs⟩ := rnds_ok W HS8.out HSs.out t
              obtain ⟨V, hVe⟩ : ∃ V, rnds W S t = V := ⟨_, rfl⟩
              have HNs : Hid (rnds W S (t + 1) = rnd (K.getD t 0) (W.getD t 0) V) := by show rnd _ _ _ = _; rw [hVe]
              rw [hVe] at HV hV8 hVs
              obtain ⟨a, b, cc, d, e, f, gg, h, rfl⟩ := eight hV8
              have d0 := HV.out.cell (i := 0) (x := a) rfl
              have d1 := HV.out.cell (i := 1) (x := b) rfl
              have d2 := HV.out.cell (i := 2) (x := cc) rfl
              have d3 := HV.out.cell (i := 3) (x := d) rfl
              have d4 := HV.out.cell (i := 4) (x := e) rfl
              have d5 := HV.out.cell (i := 5) (x := f) rfl
              have d6 := HV.out.cell (i := 6) (x := gg) rfl
              have d7 := HV.out.cell (i := 7) (x := h) rfl
              have ba : a < 4294967296 := hVs a (by simp)
              have bb : b < 4294967296 := hVs b (by simp)
              have bc : cc < 4294967296 := hVs cc (by simp)
              have bd : d < 4294967296 := hVs d (by simp)
              have be : e < 4294967296 := hVs e (by simp)
              have bf : f < 4294967296 := hVs f (by simp)
              have bg : gg < 4294967296 := hVs gg (by simp)
              have bh : h < 4294967296 := hVs h (by simp)
              have hWl : t < W.length := by rw [HWl.out]; exact hlt
              have hKl : t < K.length := by rw [K_length]; exact hlt
              obtain ⟨wt, hwt⟩ : ∃ x, W[t] = x := ⟨_, rfl⟩
              obtain ⟨kt, hkt⟩ : ∃ x, K[t] = x := ⟨_, rfl⟩
              have hWt : W[t]? = some wt := by rw [List.getElem?_eq_getElem hWl, hwt]
              have hKt : K[t]? = some kt := by rw [List.getElem?_eq_getElem hKl, hkt]
              have dW := HWx.out.cell hWt
              have dK := HKx.out.cell hKt
              have gW : W.getD t 0 = wt := by rw [List.getD_eq_getElem?_getD, hWt]; rfl
              have gK : K.getD t 0 = kt := by rw [List.getD_eq_getElem?_getD, hKt]; rfl
              rw [gW, gK] at HNs
              have bw : wt < 4294967296 := HWs.out.at hWt
              have bk : kt < 4294967296 := K_small.at hKt
              obtain ⟨r6, er6⟩ : ∃ r, rot e 6 = r := ⟨_, rfl⟩
              have hr6 : r6 < 4294967296 := by rw [← er6]; exact rot_lt be
              have T6 : Hid (∀ u, Calls Tryd.prog 54 #[.int .u32 e, .int .u64 6] u fun e w' => e = .returned (.int .u32 (r6 : Nat)) ∧ w' = u) := fun u => er6 ▸ turn_any e 6 u be (by omega) (by omega)
              obtain ⟨r11, er11⟩ : ∃ r, rot e 11 = r := ⟨_, rfl⟩
              have hr11 : r11 < 4294967296 := by rw [← er11]; exact rot_lt be
              have T11 : Hid (∀ u, Calls Tryd.prog 54 #[.int .u32 e, .int .u64 11] u fun e w' => e = .returned (.int .u32 (r11 : Nat)) ∧ w' = u) := fun u => er11 ▸ turn_any e 11 u be (by omega) (by omega)
              obtain ⟨r25, er25⟩ : ∃ r, rot e 25 = r := ⟨_, rfl⟩
              have hr25 : r25 < 4294967296 := by rw [← er25]; exact rot_lt be
              have T25 : Hid (∀ u, Calls Tryd.prog 54 #[.int .u32 e, .int .u64 25] u fun e w' => e = .returned (.int .u32 (r25 : Nat)) ∧ w' = u) := fun u => er25 ▸ turn_any e 25 u be (by omega) (by omega)
              obtain ⟨r2, er2⟩ : ∃ r, rot a 2 = r := ⟨_, rfl⟩
              have hr2 : r2 < 4294967296 := by rw [← er2]; exact rot_lt ba
              have T2 : Hid (∀ u, Calls Tryd.prog 54 #[.int .u32 a, .int .u64 2] u fun e w' => e = .returned (.int .u32 (r2 : Nat)) ∧ w' = u) := fun u => er2 ▸ turn_any a 2 u ba (by omega) (by omega)
              obtain ⟨r13, er13⟩ : ∃ r, rot a 13 = r := ⟨_, rfl⟩
              have hr13 : r13 < 4294967296 := by rw [← er13]; exact rot_lt ba
              have T13 : Hid (∀ u, Calls Tryd.prog 54 #[.int .u32 a, .int .u64 13] u fun e w' => e = .returned (.int .u32 (r13 : Nat)) ∧ w' = u) := fun u => er13 ▸ turn_any a 13 u ba (by omega) (by omega)
              obtain ⟨r22, er22⟩ : ∃ r, rot a 22 = r := ⟨_, rfl⟩
              have hr22 : r22 < 4294967296 := by rw [← er22]; exact rot_lt ba
              have T22 : Hid (∀ u, Calls Tryd.prog 54 #[.int .u32 a, .int .u64 22] u fun e w' => e = .returned (.int .u32 (r22 : Nat)) ∧ w' = u) := fun u => er22 ▸ turn_any a 22 u ba (by omega) (by omega)
              obtain ⟨hS1e, ehS1e⟩ : ∃ q, r6 ^^^ r11 = q := ⟨_, rfl⟩
              obtain ⟨S1e, eS1e⟩ : ∃ q, hS1e ^^^ r25 = q := ⟨_, rfl⟩
              have bhS1e : hS1e < 4294967296 := by rw [← ehS1e]; exact xor_lt hr6 hr11
              have bS1e : S1e < 4294967296 := by rw [← eS1e]; exact xor_lt bhS1e hr25
              have u1S1e : bits .xor .u32 (r6 : Int) (r11 : Int) = (hS1e : Int) := by rw [u32_xor_nat r6 r11 hr6 hr11, ehS1e]
              have u2S1e : bits .xor .u32 (hS1e : Int) (r25 : Int) = (S1e : Int) := by rw [u32_xor_nat hS1e r25 bhS1e hr25, eS1e]
              have eS1 : S1 e = S1e := by unfold S1; rw [er6, er11, er25, ehS1e, eS1e]
              clear ehS1e eS1e er6 er11 er25
              obtain ⟨hS0a, ehS0a⟩ : ∃ q, r2 ^^^ r13 = q := ⟨_, rfl⟩
              obtain ⟨S0a, eS0a⟩ : ∃ q, hS0a ^^^ r22 = q := ⟨_, rfl⟩
              have bhS0a : hS0a < 4294967296 := by rw [← ehS0a]; exact xor_lt hr2 hr13
              have bS0a : S0a < 4294967296 := by rw [← eS0a]; exact xor_lt bhS0a hr22
              have u1S0a : bits .xor .u32 (r2 : Int) (r13 : Int) = (hS0a : Int) := by rw [u32_xor_nat r2 r13 hr2 hr13, ehS0a]
              have u2S0a : bits .xor .u32 (hS0a : Int) (r22 : Int) = (S0a : Int) := by rw [u32_xor_nat hS0a r22 bhS0a hr22, eS0a]
              have eS0 : S0 a = S0a := by unfold S0; rw [er2, er13, er22, ehS0a, eS0a]
              clear ehS0a eS0a er2 er13 er22
              obtain ⟨n1, en1⟩ : ∃ q, e &&& f = q := ⟨_, rfl⟩
              obtain ⟨n2, en2⟩ : ∃ q, (4294967295 - e) &&& gg = q := ⟨_, rfl⟩
              obtain ⟨ne, ene⟩ : ∃ q, 4294967295 - e = q := ⟨_, rfl⟩
              have bne : ne < 4294967296 := by omega
              have bn1 : n1 < 4294967296 := by rw [← en1]; exact and_lt _ be
              have bn2 : n2 < 4294967296 := by rw [← en2, ene]; exact and_lt _ bne
              obtain ⟨c1, ec1⟩ : ∃ q, n1 ^^^ n2 = q := ⟨_, rfl⟩
              have bc1 : c1 < 4294967296 := by rw [← ec1]; exact xor_lt bn1 bn2
              have v1 : bits .and .u32 (e : Int) (f : Int) = (n1 : Int) := by rw [u32_and_nat e f be bf, en1]
              have v2 : bits .xor .u32 4294967295 (e : Int) = (ne : Int) := by
                have := u32_xor_nat 4294967295 e (by omega) be
                rw [not_is be, ene] at this
                exact this
              have v2m : bits .xor .u32 IntKind.u32.max (e : Int) = (ne : Int) := v2
              have hsg : IntKind.u32.signed = false := rfl
              have v3 : bits .and .u32 (ne : Int) (gg : Int) = (n2 : Int) := by rw [u32_and_nat ne gg bne bg, ← ene, en2]
              have v4 : bits .xor .u32 (n1 : Int) (n2 : Int) = (c1 : Int) := by rw [u32_xor_nat n1 n2 bn1 bn2, ec1]
              obtain ⟨m1, em1⟩ : ∃ q, a &&& b = q := ⟨_, rfl⟩
              obtain ⟨m2, em2⟩ : ∃ q, a &&& cc = q := ⟨_, rfl⟩
              obtain ⟨m3, em3⟩ : ∃ q, b &&& cc = q := ⟨_, rfl⟩
              have bm1 : m1 < 4294967296 := by rw [← em1]; exact and_lt _ ba
              have bm2 : m2 < 4294967296 := by rw [← em2]; exact and_lt _ ba
              have bm3 : m3 < 4294967296 := by rw [← em3]; exact and_lt _ bb
              obtain ⟨m4, em4⟩ : ∃ q, m1 ^^^ m2 = q := ⟨_, rfl⟩
              have bm4 : m4 < 4294967296 := by rw [← em4]; exact xor_lt bm1 bm2
              obtain ⟨m5, em5⟩ : ∃ q, m4 ^^^ m3 = q := ⟨_, rfl⟩
              have bm5 : m5 < 4294967296 := by rw [← em5]; exact xor_lt bm4 bm3
              have v5 : bits .and .u32 (a : Int) (b : Int) = (m1 : Int) := by rw [u32_and_nat a b ba bb, em1]
              have v6 : bits .and .u32 (a : Int) (cc : Int) = (m2 : Int) := by rw [u32_and_nat a cc ba bc, em2]
              have v7 : bits .and .u32 (b : Int) (cc : Int) = (m3 : Int) := by rw [u32_and_nat b cc bb bc, em3]
              have v8 : bits .xor .u32 (m1 : Int) (m2 : Int) = (m4 : Int) := by rw [u32_xor_nat m1 m2 bm1 bm2, em4]
              have v9 : bits .xor .u32 (m4 : Int) (m3 : Int) = (m5 : Int) := by rw [u32_xor_nat m4 m3 bm4 bm3, em5]
              have sum (x y : Nat) : ∃ z : Nat, (x + y) % 4294967296 = z ∧ IntKind.u32.wrap ((x : Int) + (y : Int)) = (z : Int) ∧ ((x : Int) + (y : Int)) % 4294967296 = (z : Int) := ⟨_, rfl, by rw [IntKind.wrap_u32']; omega, by omega⟩
              obtain ⟨z1, ez1, p1, o1⟩ := sum h S1e
              obtain ⟨z2, ez2, p2, o2⟩ := sum z1 c1
              obtain ⟨z3, ez3, p3, o3⟩ := sum z2 kt
              obtain ⟨z4, ez4, p4, o4⟩ := sum z3 wt
              obtain ⟨y1, ey1, p5, o5⟩ := sum S0a m5
              obtain ⟨x1, ex1, p6, o6⟩ := sum z4 y1
              obtain ⟨x5, ex5, p7, o7⟩ := sum d z4
              have HR : Hid (rnd kt wt [a, b, cc, d, e, f, gg, h] = [x1, a, b, cc, x5, e, f, gg]) := by
                show _ = _
                have q1 : S1 e = S1e := eS1
                have q2 : S0 a = S0a := eS0
                have q3 : ch e f gg = c1 := by unfold ch; rw [en1, en2, ec1]
                have q4 : maj a b cc = m5 := by unfold maj; rw [em1, em2, em3, em4, em5]
                show [((h + S1 e + ch e f gg + kt + wt) % 4294967296 + (S0 a + maj a b cc) % 4294967296) % 4294967296, a, b, cc, (d + (h + S1 e + ch e f gg + kt + wt) % 4294967296) % 4294967296, e, f, gg] = _
                rw [q1, q2, q3, q4]
                have q5 : (h + S1e + c1 + kt + wt) % 4294967296 = z4 := by omega
                rw [q5, ey1, ex1, ex5]
              clear sum en1 en2 ene em1 em2 em3 em4 em5 ec1 ez1 ez2 ez3 ez4 ey1 ex1 ex5 eS1 eS0 gW gK hwt hkt hWt hKt hWl hKl hVs hV8 hVe
              have i0 : (0 : Int) < 8 := by decide
              go_wp2_with fail
              go_region
              go_wp2_with fail
              go_quiet (first | (go_at_call 54; with_reducible exact quiet_more_same (T6.out _)) | (go_at_call 54; with_reducible exact quiet_more_same (T11.out _)) | (go_at_call 54; with_reducible exact quiet_more_same (T25.out _)))
              revert nq
              intro nq1
              go_wp2_with fail
              go_quiet (first | (go_at_call 54; with_reducible exact quiet_more_same (T2.out _)) | (go_at_call 54; with_reducible exact quiet_more_same (T13.out _)) | (go_at_call 54; with_reducible exact quiet_more_same (T22.out _)))
              go_wp2_with fail
              obtain ⟨wq, hwq⟩ : ∃ x, (wr.drew.drewN nq1).drewN nq = x := ⟨_, rfl⟩
              rw [hwq]
              have eh : wq.heap = wr.heap := by rw [← hwq]; rfl
              have HVq : Hid (RowK .u32 77 wq g [a, b, cc, d, e, f, gg, h]) := HV.out.same (by rw [eh])
              have k0 := HVq.out.cell (i := 0) (x := a) rfl
              have k1 := HVq.out.cell (i := 1) (x := b) rfl
              have k2 := HVq.out.cell (i := 2) (x := cc) rfl
              have k3 := HVq.out.cell (i := 3) (x := d) rfl
              have k4 := HVq.out.cell (i := 4) (x := e) rfl
              have k5 := HVq.out.cell (i := 5) (x := f) rfl
              have k6 := HVq.out.cell (i := 6) (x := gg) rfl
              have HBq : Hid (Below w3.heap.size w3 wq) := by
                have q1 := ((below_drewN wr 1).trans ((below_drewN wr.drew nq1).mono (Nat.le_refl _))).trans ((below_drewN (wr.drew.drewN nq1) nq).mono (Nat.le_refl _))
                rw [hwq] at q1
                exact HB.out.trans (q1.mono HB.out.size)
              clear eh hwq d0 d1 d2 d3 d4 d5 d6 d7 dW dK
              have hgq := HVq.out.lt
              go_region_held3 (fun w' => w'.cell? ⟨g, 0, none⟩ = some (.int .u32 (a : Int)) ∧ w'.cell? ⟨g, 1, none⟩ = some (.int .u32 (b : Int)) ∧ w'.cell? ⟨g, 2, none⟩ = some (.int .u32 (cc : Int)) ∧ w'.cell? ⟨g, 3, none⟩ = some (.int .u32 (d : Int)) ∧ w'.cell? ⟨g, 4, none⟩ = some (.int .u32 (e : Int)) ∧ w'.cell? ⟨g, 5, none⟩ = some (.int .u32 (f : Int)) ∧ w'.cell? ⟨g, 6, none⟩ = some (.int .u32 (gg : Int))) (go_keep) (fail)
              have HVn : Hid (RowK .u32 77 (wq.alloc (.cells #[.int .u32 (x1 : Int), .int .u32 (a : Int), .int .u32 (b : Int), .int .u32 (cc : Int), .int .u32 (x5 : Int), .int .u32 (e : Int), .int .u32 (f : Int), .int .u32 (gg : Int)] 77)).drew wq.heap.size (rnds W S (t + 1))) := by
                show RowK _ _ _ _ _
                rw [HNs.out, HR.out]
                exact RowK.new wq .u32 _ _ _ rfl
              have HBn : Hid (Below w3.heap.size w3 (wq.alloc (.cells #[.int .u32 (x1 : Int), .int .u32 (a : Int), .int .u32 (b : Int), .int .u32 (cc : Int), .int .u32 (x5 : Int), .int .u32 (e : Int), .int .u32 (f : Int), .int .u32 (gg : Int)] 77)).drew) := by
                have q1 := HBq.out.alloc HBq.out.size (.cells #[.int .u32 (x1 : Int), .int .u32 (a : Int), .int .u32 (b : Int), .int .u32 (cc : Int), .int .u32 (x5 : Int), .int .u32 (e : Int), .int .u32 (f : Int), .int .u32 (gg : Int)] 77)
                exact q1.trans ((below_drewN _ 1).mono q1.size)
              go_wp2_with fail
              go_roundw
              case rel => exact ⟨t + 1, wq.heap.size, 8, by omega, by go_num, rfl, by omega, by omega, by omega, HVn, HBn⟩
              case measure => simp [intOf]; omega
            · obtain rfl : t = 64 := by omega
              have hlI : ¬ ((64 : Nat) : Int) < 64 := by omega
              obtain ⟨hV8, hVs⟩ := rnds_ok W HS8.out HSs.out 64
              obtain ⟨V, hVe⟩ : ∃ V, rnds W S 64 = V := ⟨_, rfl⟩
              rw [hVe] at HV hV8 hVs HEnd
              have HV8 : Hid (V.length = 8) := hV8
              have HVs : Hid (Small V) := hVs
              have HM0 : Hid (RowK .u32 77 wr g (mixS V S 0)) := by show RowK _ _ _ _ _; rw [mixS_zero]; exact HV.out
              have HB0 : Hid (Below w.heap.size w wr) := HBx.out
              clear hlt ht HV HB HWx HSx HKx HBx hV8 hVs hVe HW3 HS3 HK3 HB3
              rw [show ((64 : Nat) : Int) = 64 from rfl] at *
              go_wp2_with fail
              go_loopw [20] (fun iv wx => ∃ i : Nat, i ≤ 8 ∧ iv = .int .i64 i ∧ Hid (RowK .u32 77 wx g (mixS V S i)) ∧ Hid (Below w.heap.size w wx)) (fun iv _ => 8 - (intOf iv).toNat)
              case atStart => exact ⟨0, by omega, rfl, HM0, HB0⟩
              case round =>
                clear HM0 HB0 hlI
                obtain ⟨i, hi, rfl, HM, HB⟩ := hrel
                by_cases hi8 : i < 8
                · have hiI : (i : Int) < 8 := by omega
                  have hSi : i < S.length := by rw [HS8.out]; exact hi8
                  have hVi : i < V.length := by rw [HV8.out]; exact hi8
                  have hset := mixS_set HV8.out HS8.out hi8
                  have hat := mixS_at HV8.out HS8.out hi8
                  obtain ⟨x, hx⟩ : ∃ x, V[i] = x := ⟨_, rfl⟩
                  obtain ⟨y, hy⟩ : ∃ y, S[i] = y := ⟨_, rfl⟩
                  rw [hx] at hset hat
                  rw [hy] at hset
                  obtain ⟨z, ez⟩ : ∃ z, (x + y) % 4294967296 = z := ⟨_, rfl⟩
                  rw [ez] at hset
                  have bz : ((x : Int) + (y : Int)) % 4294967296 = (z : Int) := by omega
                  have hcv := HM.out.cell hat
                  have hcs2 := (HSw.out.below HB.out).cell (i := i) (x := y) (by rw [List.getElem?_eq_getElem hSi, hy])
                  have hfz := HM.out.frozen i
                  have HN : Hid (RowK .u32 77 (wr.drew.setCell ⟨g, i, none⟩ (.int .u32 (z : Int))) g (mixS V S (i + 1))) := by
                    have h1 := (show RowK .u32 77 wr.drew g (mixS V S i) from HM.out).set (i := i) (by rw [mixS_length HV8.out HS8.out hi]; exact hi8) z
                    rw [hset] at h1
                    exact h1
                  have HB2 : Hid (Below w.heap.size w (wr.drew.setCell ⟨g, i, none⟩ (.int .u32 (z : Int)))) := (HB.out.trans ((below_drewN wr 1).mono HB.out.size)).setCell (p := ⟨g, i, none⟩) (Nat.le_of_lt hg) _
                  clear hset hat hx hy ez hSi hVi HM HB
                  go_wp2_with fail
                  go_region
                  go_wp2_with fail
                  go_roundw
                  case rel => exact ⟨i + 1, by omega, by go_num, HN, HB2⟩
                  case measure => simp [intOf]; omega
                · obtain rfl : i = 8 := by omega
                  have hiI : ¬ ((8 : Nat) : Int) < 8 := by omega
                  have HR : Hid (BlkR w (blk S m) (.returned (.slice (some ⟨g, 0, none⟩) 8 c)) wr) := by
                    have h1 := HM.out
                    rw [mixS_full HV8.out HS8.out, ← HEnd.out] at h1
                    exact ⟨g, c, rfl, hc1, hc2, h1, Nat.le_of_lt hg, HB.out⟩
                  clear HM HB
                  go_wp2_with fail
                  go_ret
                  exact HR.out
end Go.Proofs.YtibglhlhogfdnaaDoor
