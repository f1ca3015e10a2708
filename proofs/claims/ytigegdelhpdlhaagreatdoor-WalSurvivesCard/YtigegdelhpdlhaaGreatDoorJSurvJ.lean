import Derived.Test.YtigegdelhpdlhaaGreatDoorJSurOJ
import Derived.Test.YtigegdelhpdlhaaGreatDoorRows
import Derived.Test.YtigegdelhpdlhaaGreatDoorTie
import Derived.Test.YtigegdelhpdlhaaGreatDoorCards
import Derived.ProofKit
import Derived.Lib.SmallJoins
import Derived.Deep.Slices
import Derived.OpenShut
import Derived.ShutString
import Derived.ChangeOld
import Derived.SizedLaws
import Derived.LaidMore
import Derived.LaidHandle
import Derived.SevenTiedAt
import Derived.Stop.Joined
/- Layer 18: WalSurvives: behind a crash anywhere a durable epoch is loaded that was marked, and just the entries up to it. (By jsurv.py.) -/
namespace Go.Proofs.YtigegdelhpdlhaaGreatDoor
open Go.RowKit QP

/-- a stretch, as it came in -/
structure GoV where
  av : Value
  adds : List Int
  fuse : Int
  dv : Value
  ds : List Int
def enG (x : GoV) : List Value := [x.av, .int .i64 x.fuse, x.dv]
structure GoOk (w : World) (x : GoV) : Prop where
  adds : SliceAt w x.av 1 (fun y : Int => [Value.int .i64 y]) x.adds
  draws : DrawsAt w (fun i => w.heap.size ≤ i) x.dv x.ds
theorem blank_crashed : Crashed Dk.blank (fun _ => []) [] 0 :=
  ⟨⟨rfl, rfl⟩, walD_of List.Pairwise.nil (fun _ h => by cases h) (fun _ _ _ h => by cases h) (fun _ => ⟨Nat.zero_le _, fun _ h => by cases h⟩) ⟨[], torn_nil, rfl, by decide⟩ (fun _ h => by cases h) (fun _ h => by cases h), rfl, by decide, fun _ h => by cases h⟩
theorem goV_at {w : World} {v : Value} {L : List GoV} (hv : SliceAt w v 3 enG L) (hx : ∀ x ∈ L, GoOk w x) : ∃ a c, v = .slice a L.length c ∧ L.length ≤ c ∧ c ≤ 9223372036854775807 ∧ ∀ i, i < L.length → ∃ (b off : Nat) (aA : Option Addr) (nA cA : Nat) (Fz : Int) (aD : Option Addr) (nD cD : Nat) (ds : List Int), a = some ⟨b, off, none⟩ ∧
    (∀ u, Below w.heap.size w u → u.cell? ⟨b, off + i * 3, none⟩ = some (.slice aA nA cA) ∧ u.cell? ⟨b, off + i * 3 + 1, none⟩ = some (.int .i64 Fz) ∧ u.cell? ⟨b, off + i * 3 + 2, none⟩ = some (.slice aD nD cD)) ∧
    (nA ≤ cA ∧ cA ≤ 9223372036854775807) ∧ (nD ≤ cD ∧ cD ≤ 9223372036854775807) ∧ nD = ds.length ∧ DrawsAt w (fun i => w.heap.size ≤ i) (.slice aD nD cD) ds ∧
    ∀ k, k < nA → ∃ bA oA y, aA = some ⟨bA, oA, none⟩ ∧ ∀ u, Below w.heap.size w u → u.cell? ⟨bA, oA + k, none⟩ = some (.int .i64 y) := by
  obtain ⟨a, c, rfl, h1, h2, h3⟩ := hv
  unfold maxLen at h2
  refine ⟨a, c, rfl, h1, by omega, fun i hi => ?_⟩
  obtain ⟨b, off, rfl, e2, e3⟩ := h3 (fun e => by rw [e] at hi; cases hi)
  obtain ⟨x, hxe⟩ : ∃ x, L[i] = x := ⟨_, rfl⟩
  have hok := hx x (by rw [← hxe]; exact List.getElem_mem hi)
  obtain ⟨aA, cA, eA, a1, a2, a3⟩ := hok.adds
  obtain ⟨aD, cD, eD, b1, b2, b3⟩ := id hok.draws
  unfold maxLen at a2 b2
  have g := e3 i hi
  rw [hxe] at g
  refine ⟨b, off, aA, x.adds.length, cA, x.fuse, aD, x.ds.length, cD, x.ds, rfl, fun u hu => ⟨?_, ?_, ?_⟩, ⟨a1, by omega⟩, ⟨b1, by omega⟩, rfl, by rw [← eD]; exact hok.draws, fun k hk => ?_⟩
  · have := g 0 x.av rfl
    rw [Nat.add_zero] at this
    rw [(hu.cell (p := ⟨b, off + i * 3, none⟩) e2).trans this, eA]
  · have := g 1 (.int .i64 x.fuse) rfl
    exact (hu.cell (p := ⟨b, off + i * 3 + 1, none⟩) e2).trans this
  · have := g 2 x.dv rfl
    rw [(hu.cell (p := ⟨b, off + i * 3 + 2, none⟩) e2).trans this, eD]
  · obtain ⟨bA, oA, f1, f2, f3⟩ := a3 (fun e => by rw [e] at hk; cases hk)
    have := f3 k hk 0 _ rfl
    rw [Nat.mul_one, Nat.add_zero] at this
    exact ⟨bA, oA, x.adds[k], f1, fun u hu => (hu.cell (p := ⟨bA, oA + k, none⟩) f2).trans this⟩

theorem Stand.sndOff {I J : World → (Nat → Prop) → Prop} {w u : World} {L : List (Nat × Obj)} (h : Stand (Sep I J) w u L) : Stand I w u L := by
  obtain ⟨F, ⟨A, B, hI, _, _, hAF, _, _⟩, h2, h3, h4, h5⟩ := h
  exact ⟨A, hI, fun j hj => h2 j (hAF j hj), fun p hp hj => h3 p hp (hAF _ hj), h4, h5⟩
theorem added_at {w : World} {base : Nat} {av : Option Addr} {ac k : Nat} {R : List Er} {A : List (Nat × Nat)} (h : EntsO w base tB kB (.slice av k ac) R) (ht : R.map Er.tn = A) (hk : A.length = k) (hA : AOk A) (u : World) (hu : Below w.heap.size w u) (j : Nat) (hj : j < k) :
    ∃ bl T n g x : Nat, av = some ⟨bl, 0, none⟩ ∧ k ≤ ac ∧ ac ≤ 9223372036854775807 ∧ u.cell? ⟨bl, j * 2, none⟩ = some (.int .u64 (T : Int)) ∧ u.cell? ⟨bl, j * 2 + 1, none⟩ = some (.slice (some ⟨g, 0, none⟩) 1 1) ∧ A[j]? = some (T, n) ∧ TidOk T ∧
      (u.heap[g]? = some (boxJ tB kB x) ∧ OneAt u x 2 (n : Int) ByteArray.empty ∧ base ≤ g ∧ base ≤ x ∧ g < w.heap.size ∧ x < w.heap.size) := by
  have hR : R.length = k := by
    have := congrArg List.length ht
    rw [List.length_map] at this
    omega
  have hrow := h.row
  rw [hR] at hrow
  obtain ⟨bl, rfl, c1, c2⟩ := row_someJ hrow (by omega)
  have j1 : j < R.length := by omega
  have f0 := flat_get (en := enE) (m := 2) (fun _ => rfl) R j j1 0 (by omega)
  have f1 := flat_get (en := enE) (m := 2) (fun _ => rfl) R j j1 1 (by omega)
  have q0 := World.ownsRow.cells (row_kept hrow hu) (g := bl) rfl _ _ f0
  have q1 := World.ownsRow.cells (row_kept hrow hu) (g := bl) rfl _ _ f1
  rw [Addr.add_lit, Nat.zero_add, Nat.mul_comm] at q0 q1
  obtain ⟨x1, x2, x3, x4, _⟩ := h.ent _ (List.getElem_mem j1)
  have e1 : A[j]? = some ((R[j]).T, (R[j]).n) := by
    rw [← ht, List.getElem?_map, List.getElem?_eq_getElem j1]
    rfl
  exact ⟨bl, (R[j]).T, (R[j]).n, (R[j]).g, (R[j]).x, rfl, c1, c2, q0, q1, e1, hA.ok _ (List.mem_of_getElem? e1), (hu.block _ (lt_of x1)).trans x1, x2.below hu, x3, x4, lt_of x1, x2.1⟩

set_option maxRecDepth 100000 in
set_option maxHeartbeats 64000000 in
theorem surv_walk (v : Value) (L : List GoV) (w : World) (hv : SliceAt w v 3 enG L) (hx : ∀ x ∈ L, GoOk w x) : Calls Tryz.prog 3 #[v] w fun e w' => e = .returned (.bool true) ∧ Below w.heap.size w w' := by
  obtain ⟨a, c, rfl, h1, h2, hel⟩ := goV_at hv hx
  obtain ⟨n, hn⟩ : ∃ n, L.length = n := ⟨_, rfl⟩
  rw [hn] at h1 hel ⊢
  have HEl : Hid (∀ i, i < n → ∃ (b off : Nat) (aA : Option Addr) (nA cA : Nat) (Fz : Int) (aD : Option Addr) (nD cD : Nat) (ds : List Int), a = some ⟨b, off, none⟩ ∧
    (∀ u, Below w.heap.size w u → u.cell? ⟨b, off + i * 3, none⟩ = some (.slice aA nA cA) ∧ u.cell? ⟨b, off + i * 3 + 1, none⟩ = some (.int .i64 Fz) ∧ u.cell? ⟨b, off + i * 3 + 2, none⟩ = some (.slice aD nD cD)) ∧
    (nA ≤ cA ∧ cA ≤ 9223372036854775807) ∧ (nD ≤ cD ∧ cD ≤ 9223372036854775807) ∧ nD = ds.length ∧ DrawsAt w (fun i => w.heap.size ≤ i) (.slice aD nD cD) ds ∧
    ∀ k, k < nA → ∃ bA oA y, aA = some ⟨bA, oA, none⟩ ∧ ∀ u, Below w.heap.size w u → u.cell? ⟨bA, oA + k, none⟩ = some (.int .i64 y)) := hel
  have HWk : Hid (∀ u, Calls Tryz.prog 8 #[] u fun e w' => e = .returned (.bool true) ∧ Below u.heap.size u w') := fun u => works_any u
  clear hel hv hx hn
  go_enter Tryz.func3, Tryz.ntmps3
  go_wp2_with fail
  refine (dnew_i w).mono ?_
  rintro e w1 ⟨d, F1, rfl, hD1, hF1, hb1⟩
  have S1 : Hid (Stand (DiskI d Dk.blank) w w1 []) := Stand.start hD1 hF1 hb1
  clear hD1 hF1 hb1
  go_wp2_with fail
  refine (HWk.out _).mono ?_
  rintro e w2 ⟨rfl, hb2⟩
  have S2 : Hid (Stand (DiskI d Dk.blank) w w2 []) := S1.out.below (DiskI.res _ _) hb2
  clear S1 hb2 HWk
  go_wp2_with fail
  go_loopw [4, 5, 6] (fun ve vm vi wr => ∃ (ep mk i G0 : Nat) (cd : Dk.Dsk), ve = .int .i64 ep ∧ vm = .int .i64 mk ∧ vi = .int .i64 i ∧ i ≤ n ∧ i ≤ 12 ∧ mk < ep ∧ ep ≤ 1 + 100 * i ∧ G0 ≤ 2 * i ∧ Hid (∃ LF Es, Crashed cd LF Es G0 ∧ lastE Es = mk ∧ ManyOk (allE mk LF (Dk.keysL cd.fs))) ∧ Hid (Stand (DiskI d cd) w wr [])) (fun _ _ vi _ => 12 - (intOf vi).toNat)
  case atStart => exact ⟨1, 0, 0, 0, Dk.blank, rfl, rfl, rfl, Nat.zero_le _, by decide, by decide, by decide, by decide, ⟨fun _ => [], [], blank_crashed, rfl, Or.inl (by decide)⟩, S2⟩
  case round =>
    clear S2
    obtain ⟨ep, mk, i, G0, cd, rfl, rfl, rfl, hin, hi12, hme, hep, hG0, HC, HS⟩ := hrel
    by_cases hlt : i < n ∧ i < 12
    · obtain ⟨q1, q2⟩ := hlt
      have q3 : (i : Int) < (n : Int) := by omega
      have q4 : (i : Int) < 12 := by omega
      obtain ⟨b, off, aA, nA, cA, Fz, aD, nD, cD, ds, rfl, hcell, ⟨hA1, hA2⟩, ⟨hD1, hD2⟩, hnd, hdraw, hadds⟩ := HEl.out i q1
      have HX : Hid (∀ u, Below w.heap.size w u → u.cell? ⟨b, off + i * 3, none⟩ = some (.slice aA nA cA) ∧ u.cell? ⟨b, off + i * 3 + 1, none⟩ = some (.int .i64 Fz) ∧ u.cell? ⟨b, off + i * 3 + 2, none⟩ = some (.slice aD nD cD)) := hcell
      have HAd : Hid (∀ k, k < nA → ∃ bA oA y, aA = some ⟨bA, oA, none⟩ ∧ ∀ u, Below w.heap.size w u → u.cell? ⟨bA, oA + k, none⟩ = some (.int .i64 y)) := hadds
      have HDr : Hid (nD = ds.length ∧ DrawsAt w (fun i => w.heap.size ≤ i) (.slice aD nD cD) ds) := ⟨hnd, hdraw⟩
      obtain ⟨x0, x1, x2⟩ := hcell wr HS.out.base
      clear hcell hadds hnd hdraw
      by_cases hD : 4096 < nD
      · have hDI : (4096 : Int) < (nD : Int) := by omega
        go_wp2_with fail
        go_returns
        exact ⟨rfl, HS.out.base⟩
      · have hDI : ¬ (4096 : Int) < (nD : Int) := by omega
        obtain ⟨LF0, Es0, hC, hmk, hmany⟩ := HC.out
        obtain ⟨s3, G1, hop, hG1, hcall⟩ := sOpen (d := d) hC hmk (by omega) hmany
        obtain ⟨r, hr, hr2⟩ : ∃ r : Nat, Fz % 40 = (r : Int) ∧ r < 40 := ⟨(Fz % 40).toNat, by omega, by omega⟩
        have HAm : Hid (∀ u, Calls Tryz.prog 13 #[.int .i64 Fz, .int .i64 40] u fun e w' => e = .returned (.int .i64 (r : Int)) ∧ u = w') := fun u => by
          have := among_any Fz 40 u (by decide) (by decide)
          rw [hr] at this
          exact this
        have HSv : Hid (SurvS [] ep mk (G1 + 1) (wsN 3) (fun _ => []) (if mk = 0 then [] else [mk]) (Dk.fuseS (trimS s3) (r : Int))) := hop.begin hme (by omega) (by omega) _
        have HO : Hid (Calls Tryz.prog 9 #[.pointer (some ⟨d, 0, none⟩), .int .i64 3] wr fun e w' => ∃ l, e = .returned (.tuple #[.pointer (some ⟨l, 0, none⟩), .int .i64 0]) ∧ Hid (Stand (LD tB kB l d s3 ⟨wsN 3, mk, G1⟩) w w' [])) := by
          obtain ⟨F, hF, kF⟩ := HS.out.any
          refine (hcall wr F hF).mono ?_
          rintro e w' ⟨l, e1, hg⟩
          exact ⟨l, e1, kF _ _ hg⟩
        have HRo : Hid (∀ l u, Stand (LD tB kB l d s3 ⟨wsN 3, mk, G1⟩) w u [] → Calls Tryz.prog 10 #[.pointer (some ⟨l, 0, none⟩)] u fun e w' => e = .returned (.tuple #[.int .i64 (G1 : Int), .int .i64 0]) ∧ Hid (Stand (LD tB kB l d s3 ⟨wsN 3, mk, G1 + 1⟩) w w' [])) := fun l u hS => by
          obtain ⟨F, hF, kF⟩ := hS.any
          exact (cRotate hF (show G1 < 1000000 by omega)).mono fun e w' ⟨e1, hg⟩ => ⟨e1, kF _ _ hg⟩
        obtain ⟨M, hM⟩ : ∃ M, cntJ s3 s3.fs.length = M := ⟨_, rfl⟩
        have HTr : Hid (∀ l u, Stand (LD tB kB l d s3 ⟨wsN 3, mk, G1 + 1⟩) w u [] → Calls Tryz.prog 11 #[.pointer (some ⟨l, 0, none⟩), .int .i64 (G1 : Int)] u fun e w' => e = .returned (.tuple #[.int .i64 (M : Int), .int .i64 0]) ∧ Hid (Stand (LD tB kB l d (trimS s3) ⟨wsN 3, mk, G1 + 1⟩) w w' [])) := fun l u hS => by
          obtain ⟨F, hF, kF⟩ := hS.any
          have := cTrim G1 hF (Nat.lt_succ_self G1) hop.up hop.rise hop.names (fun p hp hl => Nat.le_of_lt (hop.gens p hp hl))
          rw [hM] at this
          exact this.mono fun e w' ⟨e1, hg⟩ => ⟨e1, kF _ _ hg⟩
        obtain ⟨s4, hs4⟩ : ∃ s4, Dk.fuseS (trimS s3) (r : Int) = s4 := ⟨_, rfl⟩
        rw [hs4] at HSv
        have HFu : Hid (∀ l u, Stand (LD tB kB l d (trimS s3) ⟨wsN 3, mk, G1 + 1⟩) w u [] → Calls Tryz.prog 12 #[.pointer (some ⟨d, 0, none⟩), .int .i64 (r : Int)] u fun e w' => e = .returned (.int .i64 0) ∧ Hid (Stand (LD tB kB l d s4 ⟨wsN 3, mk, G1 + 1⟩) w w' [])) := fun l u hS => by
          refine hS.onFst (logI_res tB kB l d _) fun F hF => ?_
          have := dfuse_i (r : Int) hF (by omega)
          rw [show Dk.fuseE (r : Int) = 0 by unfold Dk.fuseE; rw [if_neg (by omega)], hs4] at this
          exact this
        obtain ⟨Gn, hGn⟩ : ∃ g, G1 + 1 = g := ⟨_, rfl⟩
        have hGn2 : Gn ≤ G0 + 2 := by omega
        rw [hGn] at HSv HRo HTr HFu
        clear hC hmk hmany hop hG1 hcall hr hM hs4 HC
        go_wp2_with (first
          | (go_at_call 9; (with_reducible refine HO.out.mono ?_); rintro e w3 ⟨l, rfl, S3⟩)
          | (go_at_call 10; (with_reducible refine (HRo.out _ _ S3.out).mono ?_); rintro e w4 ⟨rfl, S4⟩)
          | (go_at_call 11; (with_reducible refine (HTr.out _ _ S4.out).mono ?_); rintro e w5 ⟨rfl, S5⟩; obtain ⟨x3, x4, x5⟩ := HX.out w5 S5.out.base)
          | (go_at_call 13; (with_reducible refine (HAm.out _).mono ?_); rintro e w6 ⟨rfl, rfl⟩)
          | (go_at_call 12; (with_reducible refine (HFu.out _ _ S5.out).mono ?_); rintro e w7 ⟨rfl, S7⟩))
        have S8 : Hid (Stand (Sep (LD tB kB l d s4 ⟨wsN 3, mk, Gn⟩) (EI w7.heap.size tB kB (.slice none 0 0) [])) w w7 []) := S7.out.withEI
        clear S3 S4 S5 S7 HO HRo HTr HFu HAm HS
        obtain ⟨base, hbase⟩ : ∃ b, w7.heap.size = b := ⟨_, rfl⟩
        have HBs : Hid (w.heap.size ≤ base ∧ base ≤ w7.heap.size) := ⟨by rw [← hbase]; exact S8.out.base.size, by omega⟩
        rw [hbase] at S8
        clear hbase x0 x1 x2 x3 x4 x5
        go_loopw [4, 5, 13, 14, 15, 16] (fun ve vm va vx vd vk wr => ∃ (ep' mk' nx k : Nat) (dn : Bool) (A : List (Nat × Nat)) (R : List Er) (av : Option Addr) (ac : Nat) (s : Dk.Dsk) (Lq : Lg), ve = .int .i64 ep' ∧ vm = .int .i64 mk' ∧ va = .slice av k ac ∧ vx = .int .i64 nx ∧ vd = .bool dn ∧ vk = .int .i64 k ∧ k ≤ nA ∧ k ≤ 30 ∧ mk' < ep' ∧ ep' ≤ ep + 2 * k ∧ nx ≤ ep' ∧
          Hid (AOk A ∧ R.map Er.tn = A ∧ A.length = k ∧ ∀ p ∈ A, p.1 / 8388608 ≤ ep') ∧ Hid (base ≤ wr.heap.size) ∧
          Hid ((dn = false → nx = mk' ∧ ∃ wks LF Es, SurvS A ep' mk' Gn wks LF Es s ∧ Lq = ⟨wks, mk', Gn⟩) ∧ (dn = true → EndS A mk' nx Gn s)) ∧
          Hid (Stand (Sep (LD tB kB l d s Lq) (EI base tB kB (.slice av k ac) R)) w wr [])) (fun _ _ _ _ vd vk _ => 30 - (intOf vk).toNat)
        case atStart => exact ⟨ep, mk, mk, 0, false, [], [], none, 0, s4, ⟨wsN 3, mk, Gn⟩, rfl, rfl, rfl, rfl, rfl, rfl, Nat.zero_le _, by decide, hme, by omega, by omega, ⟨⟨List.Pairwise.nil, (fun _ h => by cases h), by decide⟩, rfl, rfl, fun _ h => by cases h⟩, HBs.out.2, ⟨fun _ => ⟨rfl, wsN 3, fun _ => [], _, HSv.out, rfl⟩, fun h => by cases h⟩, S8⟩
        case round =>
          clear S8 HSv
          obtain ⟨ep', mk', nx, k, dn, A, R, av, ac, s, Lq, rfl, rfl, rfl, rfl, rfl, rfl, hkn, hk30, hme', hep', hnx, HA, HB, HI, HS⟩ := hrel
          obtain ⟨x0, x1, x2⟩ := HX.out wr HS.out.base
          by_cases hgo : k < nA ∧ k < 30 ∧ dn = false
          · obtain ⟨g1, g2, rfl⟩ := hgo
            obtain ⟨bA, oA, y, rfl, hy⟩ := HAd.out k g1
            have HY : Hid (∀ u, Below w.heap.size w u → u.cell? ⟨bA, oA + k, none⟩ = some (.int .i64 y)) := hy
            have cy := hy wr HS.out.base
            clear hy
            obtain ⟨hnxe, wks, LF, Es, hSv, hLq⟩ := HI.out.1 rfl
            obtain rfl : mk' = nx := hnxe.symm
            subst hLq
            have HSv : Hid (SurvS A ep' mk' Gn wks LF Es s) := hSv
            clear hSv HI hnxe
            have k1 : (k : Int) < (nA : Int) := by omega
            have k2 : (k : Int) < 30 := by omega
            obtain ⟨r4, hr4⟩ : ∃ r, y % 4 = r := ⟨_, rfl⟩
            obtain ⟨r5, hr5⟩ : ∃ r, y % 5 = r := ⟨_, rfl⟩
            obtain ⟨r3, hr3, hr3b⟩ : ∃ r : Nat, y % 3 = (r : Int) ∧ r < 3 := ⟨(y % 3).toNat, by omega, by omega⟩
            have HAm4 : Hid (∀ u, Calls Tryz.prog 13 #[.int .i64 y, .int .i64 4] u fun e w' => e = .returned (.int .i64 r4) ∧ u = w') := fun u => by
              have := among_any y 4 u (by decide) (by decide)
              rw [hr4] at this
              exact this
            have HAm5 : Hid (∀ u, Calls Tryz.prog 13 #[.int .i64 y, .int .i64 5] u fun e w' => e = .returned (.int .i64 r5) ∧ u = w') := fun u => by
              have := among_any y 5 u (by decide) (by decide)
              rw [hr5] at this
              exact this
            have HAm3 : Hid (∀ u, Calls Tryz.prog 13 #[.int .i64 y, .int .i64 3] u fun e w' => e = .returned (.int .i64 (r3 : Int)) ∧ u = w') := fun u => by
              have := among_any y 3 u (by decide) (by decide)
              rw [hr3] at this
              exact this
            clear hr4 hr5 hr3
            by_cases h4 : r4 = 0
            · obtain rfl : r4 = 0 := h4
              obtain ⟨E, hE⟩ : ∃ E, ep' + 1 = E := ⟨_, rfl⟩
              have w1 : IntKind.i64.wrap ((ep' : Int) + 1) = (E : Int) := by rw [wrap_small _ (by omega) (by omega)]; omega
              have hE1 : ep' ≤ E ∧ E ≤ ep' + 1 := by omega
              clear hE
              as_aux_lemma =>
                have hAl : A.length = k := HA.out.2.2.1
                have HS2 : Hid (SurvS A E mk' Gn wks LF Es s) := HSv.out.up hE1.1 (by omega)
                have hl3 : r3 < wks.length := by rw [HSv.out.three]; exact hr3b
                obtain ⟨wk, hwk⟩ : ∃ wk, wks[r3]? = some wk := ⟨_, List.getElem?_eq_getElem hl3⟩
                have HEn : Hid (∀ u, Calls Tryz.prog 14 #[.int .i64 (E : Int), .int .i64 (k : Int), .int .i64 (k : Int)] u fun e w' => ∃ g x, e = .returned (.agg #[.int .u64 (tidN E k : Int), .slice (some ⟨g, 0, none⟩) 1 1]) ∧ Hid (w'.heap[g]? = some (boxJ tB kB x) ∧ OneAt w' x 2 (k : Int) ByteArray.empty ∧ u.heap.size ≤ g ∧ u.heap.size ≤ x) ∧ Below u.heap.size u w') := fun u => centry E k k u (by omega) (by omega)
                obtain ⟨T, hT⟩ : ∃ T, tidN E k = T := ⟨_, rfl⟩
                have hTk := tid_ok (ep := E) (sq := k) (by omega) (by omega)
                rw [hT] at HEn hTk
                have HTk : Hid ((TidOk T ∧ T / 8388608 = E) ∧ wk.2 < T) := ⟨hTk, by
                  have := HS2.out.wlast wk (List.mem_of_getElem? hwk)
                  rw [hAl, hT] at this
                  exact this⟩
                have HS3 : Hid (SurvS (A ++ [(T, k)]) E mk' Gn (wks.set r3 (wk.1 ++ [(T, k)], T)) LF Es s) := by
                  have := HS2.out.add hwk (by omega)
                  rw [hAl, hT] at this
                  exact this
                have HWk : Hid (wks[r3]? = some wk ∧ wk.1.length ≤ 30) := ⟨hwk, (HS2.out.wait hwk).1⟩
                clear hT hTk hl3 hwk
                go_wp2_with (first
                  | (go_at_call 13; (with_reducible refine (HAm4.out _).mono ?_); rintro e w3 ⟨rfl, rfl⟩)
                  | (go_at_call 14; (with_reducible refine (HEn.out _).mono ?_); rintro e w5 ⟨g, xx, rfl, E5, hb5⟩))
                obtain ⟨wB, hwB⟩ : ∃ u, w5.alloc (.cells #[.int .u64 (T : Int), .slice (some ⟨g, 0, none⟩) 1 1] 42) = u := ⟨_, rfl⟩
                obtain ⟨q, hq⟩ : ∃ q, w5.heap.size = q := ⟨_, rfl⟩
                have hbB : Below w5.heap.size w5 wB := by rw [← hwB]; exact (Below.refl _ _).alloc (Nat.le_refl _) _
                have hqB : wB.heap[q]? = some (.cells #[.int .u64 (T : Int), .slice (some ⟨g, 0, none⟩) 1 1] 42 (0, 0)) := by rw [← hwB, ← hq]; exact heap_new w5 _
                obtain ⟨oxx, hox⟩ : ∃ o, wB.heap[xx]? = some o := ⟨_, Array.getElem?_eq_getElem (Nat.lt_of_lt_of_le E5.out.2.1.1 hbB.size)⟩
                have HBx : Hid (OneAt wB xx 2 (k : Int) ByteArray.empty ∧ base ≤ g ∧ base ≤ xx ∧ g < q ∧ xx < q ∧ wr.heap.size ≤ g ∧ wr.heap.size ≤ xx) := ⟨E5.out.2.1.below hbB, Nat.le_trans HB.out E5.out.2.2.1, Nat.le_trans HB.out E5.out.2.2.2, by rw [← hq]; exact lt_of E5.out.1, by rw [← hq]; exact E5.out.2.1.1, E5.out.2.2.1, E5.out.2.2.2⟩
                have SB : Hid (Stand (Sep (LD tB kB l d s ⟨wks, mk', Gn⟩) (EI base tB kB (.slice av k ac) R)) w wB [(q, .cells #[.int .u64 (T : Int), .slice (some ⟨g, 0, none⟩) 1 1] 42 (0, 0)), (g, boxJ tB kB xx), (xx, oxx)]) := by
                  have h5 := hb5.trans (hbB.mono hb5.size)
                  obtain ⟨F, s1, s2, s3, s4, s5⟩ := HS.out.below (Sep.res (LD.res _ _ _ _ _ _) (EI.res _ _ _ _ _)) h5
                  obtain ⟨F0, r1, r2, r3', r4', r5'⟩ := HS.out
                  have hlt := (Sep.res (LD.res tB kB l d s ⟨wks, mk', Gn⟩) (EI.res base tB kB (.slice av k ac) R)).lt r1
                  have hws := r5'.size
                  refine ⟨F0, (Sep.res (LD.res _ _ _ _ _ _) (EI.res _ _ _ _ _)).kept (S := fun _ => False) r1 (Turn.ofBelow _ h5) (fun _ _ h => h), r2, fun p hp hF => ?_, fun p hp => ?_, s5⟩
                  · have := hlt p.1 hF
                    have hq5 := hb5.size
                    simp only [List.mem_cons, List.not_mem_nil, or_false] at hp
                    rcases hp with rfl | rfl | rfl
                    · have h1 : q < wr.heap.size := this
                      omega
                    · have h1 : g < wr.heap.size := this
                      have := HBx.out.2.2.2.2.2.1
                      omega
                    · have h1 : xx < wr.heap.size := this
                      have := HBx.out.2.2.2.2.2.2
                      omega
                  · simp only [List.mem_cons, List.not_mem_nil, or_false] at hp
                    rcases hp with rfl | rfl | rfl
                    · exact ⟨hqB, by have := hb5.size; show w.heap.size ≤ q; omega⟩
                    · exact ⟨(hbB.block _ (lt_of E5.out.1)).trans E5.out.1, by have := HBx.out.2.2.2.2.2.1; show w.heap.size ≤ g; omega⟩
                    · exact ⟨hox, by have := HBx.out.2.2.2.2.2.2; show w.heap.size ≤ xx; omega⟩
                have HAdd : Hid (∀ u, Below wB.heap.size wB u → Calls Tryz.prog 15 #[.pointer (some ⟨l, 0, none⟩), .int .i64 (r3 : Int), .agg #[.int .u64 (T : Int), .slice (some ⟨g, 0, none⟩) 1 1]] u fun e w' => e = .returned (.int .i64 0) ∧ w'.cell? ⟨q, 0, none⟩ = some (.int .u64 (T : Int)) ∧ w'.cell? ⟨q, 1, none⟩ = some (.slice (some ⟨g, 0, none⟩) 1 1) ∧ Hid (Stand (Sep (LD tB kB l d s ⟨wks.set r3 (wk.1 ++ [(T, k)], T), mk', Gn⟩) (EI base tB kB (.slice av k ac) R)) w w' [(q, .cells #[.int .u64 (T : Int), .slice (some ⟨g, 0, none⟩) 1 1] 42 (0, 0)), (g, boxJ tB kB xx), (xx, oxx)])) := fun u hu => by
                  have hSu := SB.out.below (Sep.res (LD.res _ _ _ _ _ _) (EI.res _ _ _ _ _)) hu
                  have hgu : u.heap[g]? = some (boxJ tB kB xx) := hSu.at (by simp)
                  have hxu : OneAt u xx 2 (k : Int) ByteArray.empty := HBx.out.1.below hu
                  have hh := hSu.onFst (I' := LD tB kB l d s ⟨wks.set r3 (wk.1 ++ [(T, k)], T), mk', Gn⟩) (E := .returned (.int .i64 0)) (f := 15) (args := #[.pointer (some ⟨l, 0, none⟩), .int .i64 (r3 : Int), .agg #[.int .u64 (T : Int), .slice (some ⟨g, 0, none⟩) 1 1]]) (EI.res _ _ _ _ _) fun F hF => cAdd_ok hF r3 T k g xx wk HWk.out.1 (by have := HWk.out.2; omega) HTk.out.1.1 hgu hxu (by omega) (by decide) (by decide) HTk.out.2 (show mk' < T / 8388608 by rw [HTk.out.1.2]; omega)
                  refine hh.mono ?_
                  rintro e w' ⟨e1, hS'⟩
                  have hq' := hS'.out.at (b := q) (o := .cells #[.int .u64 (T : Int), .slice (some ⟨g, 0, none⟩) 1 1] 42 (0, 0)) (by simp)
                  exact ⟨e1, by rw [cell_of hq']; rfl, by rw [cell_of hq']; rfl, hS'⟩
                rw [hwB, hq]
                have b0 : wB.cell? ⟨q, 0, none⟩ = some (.int .u64 (T : Int)) := by rw [cell_of hqB]; rfl
                have b1 : wB.cell? ⟨q, 1, none⟩ = some (.slice (some ⟨g, 0, none⟩) 1 1) := by rw [cell_of hqB]; rfl
                have HS4 : Hid (SurvS (A ++ [(T, k)]) E mk' Gn (wks.set r3 (wk.1 ++ [(T, k)], T)) LF Es s ∧ Es.length < (A ++ [(T, k)]).length + 1) := ⟨HS3.out, by
                  have := HSv.out.low.2
                  rw [List.length_append, List.length_singleton]
                  omega⟩
                have HA2 : Hid (AOk (A ++ [(T, k)]) ∧ (A ++ [(T, k)]).length = k + 1 ∧ (∀ p ∈ A ++ [(T, k)], p.1 / 8388608 ≤ E) ∧ (R ++ [Er.mk T k g xx]).map Er.tn = A ++ [(T, k)]) := ⟨⟨HS3.out.inc, fun p hp => (HS3.out.okA p hp).1, HS3.out.few⟩, by rw [List.length_append, hAl]; rfl, fun p hp => (HS3.out.okA p hp).2.2.1, by rw [List.map_append, HA.out.2.1]; rfl⟩
                have HRl : Hid (R.length = k) := by
                  have := congrArg List.length HA.out.2.1
                  rw [List.length_map] at this
                  show R.length = k
                  omega
                have HOx : Hid (wB.heap[xx]? = some oxx) := hox
                clear hwB hbB hqB hox hb5 E5 SB HS HS3 HS2 HSv HEn HAm4 HA hAl hq
                go_region_held3 (fun u => u.cell? ⟨q, 0, none⟩ = some (.int .u64 (T : Int)) ∧ u.cell? ⟨q, 1, none⟩ = some (.slice (some ⟨g, 0, none⟩) 1 1)) (go_keep)
                  (first
                    | (go_at_call 13; (with_reducible refine (HAm3.out _).mono ?_); rintro e w6 ⟨rfl, rfl⟩)
                    | (go_at_call 15; (with_reducible refine (HAdd.out _ (by go_grown)).mono ?_); rintro e w7 ⟨rfl, c0, c1, S7⟩))
                have HE7 : Hid (EntsO w7 base tB kB (.slice av k ac) R ∧ w7.heap[g]? = some (boxJ tB kB xx) ∧ OneAt w7 xx 2 (k : Int) ByteArray.empty ∧ (Value.slice av k ac).ownBlock ≠ some g ∧ (Value.slice av k ac).ownBlock ≠ some xx ∧ base ≤ w7.heap.size) := by
                  obtain ⟨p1, p2⟩ := S7.out.ents
                  have hg7 := S7.out.at (b := g) (o := boxJ tB kB xx) (by simp)
                  have hx7 := S7.out.at (b := xx) (o := oxx) (by simp)
                  exact ⟨p1, hg7, oneAt_heap HBx.out.1 HOx.out hx7, p2 (g, boxJ tB kB xx) (by simp), p2 (xx, oxx) (by simp), by have := lt_of hg7; have := HBx.out.2.1; omega⟩
                clear HAdd HAm3 b0 b1 HOx
                go_wp2_with (at_builtin; go_must (refine wpList_entX rfl _ _ rfl base tB kB (.slice av k ac) R rfl ?q1 (Er.mk T k g xx) w7.heap.size 1 rfl ?q2 ?q3 ?q4 ?q5 ?_))
                case q1 => exact HE7.out.1.below ((Below.refl _ _).alloc (Nat.le_refl _) _)
                case q2 =>
                  have h := heap_new w7 (.cells #[.int .u64 (T : Int), .slice (some ⟨g, 0, none⟩) 1 1] 42)
                  first
                    | exact h
                    | exact (Array.getElem?_eq_some_iff.1 h).2
                case q3 =>
                  have hb := (Below.refl w7.heap.size w7).alloc (Nat.le_refl _) (.cells #[.int .u64 (T : Int), .slice (some ⟨g, 0, none⟩) 1 1] 42)
                  obtain ⟨_, p2, p3, p4, p5, _⟩ := HE7.out
                  exact ⟨(hb.block _ (lt_of p2)).trans p2, p3.below hb, HBx.out.2.1, HBx.out.2.2.1, p4, p5⟩
                case q4 => have := HRl.out; omega
                case q5 => have := HE7.out.2.2.2.2.2; simp; omega
                intro v8 w8 HR8 HT8 HO8
                have hl8 : (R ++ [Er.mk T k g xx]).length = k + 1 := by rw [List.length_append, HRl.out]; rfl
                obtain ⟨av8, ac8, hv8⟩ := row_shapeJ HR8.out.row
                rw [hl8] at hv8
                subst hv8
                have S8 : Hid (Stand (Sep (LD tB kB l d s ⟨wks.set r3 (wk.1 ++ [(T, k)], T), mk', Gn⟩) (EI base tB kB (.slice av8 (k + 1) ac8) (R ++ [Er.mk T k g xx]))) w w8 []) := by
                  have hb := (Below.refl w7.heap.size w7).alloc (Nat.le_refl _) (.cells #[.int .u64 (T : Int), .slice (some ⟨g, 0, none⟩) 1 1] 42)
                  have hS := (S7.out.below (Sep.res (LD.res _ _ _ _ _ _) (EI.res _ _ _ _ _)) hb).drop (L' := [(g, boxJ tB kB xx), (xx, oxx)]) (fun p hp => by simp only [List.mem_cons, List.not_mem_nil, or_false] at hp ⊢; exact Or.inr hp)
                  exact Stand.grown (e := Er.mk T k g xx) (LD.res _ _ _ _ _ _) hS HBs.out.1 HR8.out HT8.out (by
                    rcases HO8.out with h | h
                    · exact Or.inl h
                    · exact Or.inr ⟨_, h, by simp⟩)
                have HB8 : Hid (base ≤ w8.heap.size) := by
                  have h1 := HE7.out.2.2.2.2.2
                  have h2 := HT8.out.size
                  rw [World.size_alloc] at h2
                  show base ≤ _
                  omega
                generalize hA9 : A ++ [(T, k)] = A9 at HS4 HA2
                generalize hR9 : R ++ [Er.mk T k g xx] = R9 at HA2 S8
                generalize hW9 : wks.set r3 (wk.1 ++ [(T, k)], T) = W9 at HS4 S8
                clear hA9 hR9 hW9 HE7 S7 HR8 HT8 HO8 HTk HWk HBx HRl hl8 HB
                by_cases h5 : r5 = 1
                · obtain rfl : r5 = 1 := h5
                  have HBig : Hid (∀ u (s : Dk.Dsk) (Lq : Lg), Stand (Sep (LD tB kB l d s Lq) (EI base tB kB (.slice av8 (k + 1) ac8) R9)) w u [] → base ≤ u.heap.size) := fun u s Lq hS => by
                    obtain ⟨p1, _⟩ := hS.ents
                    have h1 := congrArg List.length HA2.out.2.2.2
                    rw [List.length_map, HA2.out.2.1] at h1
                    have h2 : 0 < R9.length := by omega
                    obtain ⟨e1, _, e3, _⟩ := p1.ent R9[0] (List.getElem_mem h2)
                    have := lt_of e1
                    omega
                  have hEb : E ≤ ep + 2 * k + 1 := by omega
                  have hE6 : E < 1000000 := by omega
                  have hmE : mk' < E := by omega
                  have w2' : IntKind.i64.wrap ((E : Int) + 1) = ((E + 1 : Nat) : Int) := by rw [wrap_small _ (by omega) (by omega)]; omega
                  go_wp2_with (go_at_call 13; (with_reducible refine (HAm5.out _).mono ?_); rintro e w9 ⟨rfl, rfl⟩)
                  go_loopw [15, 19] (fun vd vj wr => ∃ (dn : Bool) (j : Nat) (s : Dk.Dsk) (Lq : Lg), vd = .bool dn ∧ vj = .int .i64 j ∧ j ≤ 3 ∧ Hid ((dn = false → ∃ wks LF, SurvS A9 E mk' Gn wks LF Es s ∧ Lq = ⟨wks, mk', Gn⟩ ∧ ∀ (x : Nat) (wk : Wk), wks[x]? = some wk → x < j → wk.1 = []) ∧ (dn = true → ∀ nx, EndS A9 mk' nx Gn s)) ∧ Hid (Stand (Sep (LD tB kB l d s Lq) (EI base tB kB (.slice av8 (k + 1) ac8) R9)) w wr [])) (fun _ vj _ => 3 - (intOf vj).toNat)
                  case atStart => exact ⟨false, 0, s, ⟨W9, mk', Gn⟩, rfl, rfl, by decide, ⟨fun _ => ⟨W9, LF, HS4.out.1, rfl, fun x wk _ h => by omega⟩, fun h => by cases h⟩, S8⟩
                  case round =>
                    clear S8
                    obtain ⟨dn, j, s, Lq, rfl, rfl, hj3, HI, HS⟩ := hrel
                    by_cases hg : j < 3 ∧ dn = false
                    · obtain ⟨hj, rfl⟩ := hg
                      obtain ⟨wks, LF, hSv, hLq, hem⟩ := HI.out.1 rfl
                      subst hLq
                      have hjI : (j : Int) < 3 := by omega
                      have hl : j < wks.length := by rw [hSv.three]; exact hj
                      obtain ⟨wk, hwk⟩ : ∃ wk, wks[j]? = some wk := ⟨_, List.getElem?_eq_getElem hl⟩
                      rcases sFlush (l := l) (d := d) hSv hj hwk with ⟨s2, LF2, p2, hc⟩ | ⟨s2, p2, hc⟩
                      · have HFl : Hid (Calls Tryz.prog 16 #[.pointer (some ⟨l, 0, none⟩), .int .i64 (j : Int)] wr fun e w' => e = .returned (.int .i64 0) ∧ Hid (Stand (Sep (LD tB kB l d s2 ⟨wks.set j ([], wk.2), mk', Gn⟩) (EI base tB kB (.slice av8 (k + 1) ac8) R9)) w w' [])) := HS.out.onFst (EI.res _ _ _ _ _) fun F hF => hc wr F hF
                        have HI2 : Hid (SurvS A9 E mk' Gn (wks.set j ([], wk.2)) LF2 Es s2 ∧ ∀ (x : Nat) (wk' : Wk), (wks.set j ([], wk.2))[x]? = some wk' → x < j + 1 → wk'.1 = []) := ⟨p2, fun x wk' hx hlt => by
                          rw [List.getElem?_set] at hx
                          by_cases hxj : j = x
                          · rw [if_pos hxj, if_pos hl] at hx
                            cases hx
                            rfl
                          · rw [if_neg hxj] at hx
                            exact hem x wk' hx (by omega)⟩
                        clear hSv hem hl hwk p2 hc HI HS
                        go_wp2_with (go_at_call 16; (with_reducible refine HFl.out.mono ?_); rintro e w10 ⟨rfl, S10⟩)
                        exact ⟨⟨false, j + 1, s2, _, rfl, by go_num, by omega, ⟨fun _ => ⟨_, LF2, HI2.out.1, rfl, HI2.out.2⟩, fun h => by cases h⟩, S10⟩, by simp [intOf]; omega⟩
                      · have HFl : Hid (Calls Tryz.prog 16 #[.pointer (some ⟨l, 0, none⟩), .int .i64 (j : Int)] wr fun e w' => e = .returned (.int .i64 11) ∧ Hid (Stand (Sep (LD tB kB l d s2 ⟨wks, mk', Gn⟩) (EI base tB kB (.slice av8 (k + 1) ac8) R9)) w w' [])) := HS.out.onFst (EI.res _ _ _ _ _) fun F hF => hc wr F hF
                        have HI2 : Hid (∀ nx, EndS A9 mk' nx Gn s2) := p2
                        clear hSv hem hl hwk p2 hc HI HS
                        go_wp2_with (go_at_call 16; (with_reducible refine HFl.out.mono ?_); rintro e w10 ⟨rfl, S10⟩)
                        exact ⟨⟨true, j + 1, s2, _, rfl, by go_num, by omega, ⟨fun h => (by cases h), fun _ => HI2.out⟩, S10⟩, by simp [intOf]; omega⟩
                    · cases dn with
                      | false =>
                        obtain rfl : j = 3 := by
                          have : ¬ j < 3 := fun h => hg ⟨h, rfl⟩
                          omega
                        obtain ⟨wks, LF, hSv, hLq, hem⟩ := HI.out.1 rfl
                        subst hLq
                        have hall : ∀ wk ∈ wks, wk.1 = [] := fun wk hwk => by
                          obtain ⟨x, hx, rfl⟩ := List.getElem_of_mem hwk
                          exact hem x _ (List.getElem?_eq_getElem hx) (by rw [← hSv.three]; exact hx)
                        rcases sMark (l := l) (d := d) hSv hall HS4.out.2 hE6 with ⟨s2, p2, hc⟩ | ⟨s2, p2, hc⟩
                        · have HMk : Hid (Calls Tryz.prog 17 #[.pointer (some ⟨l, 0, none⟩), .int .i64 (E : Int)] wr fun e w' => e = .returned (.int .i64 0) ∧ Hid (Stand (Sep (LD tB kB l d s2 ⟨wks, E, Gn⟩) (EI base tB kB (.slice av8 (k + 1) ac8) R9)) w w' [])) := HS.out.onFst (EI.res _ _ _ _ _) fun F hF => hc wr F hF
                          have HI2 : Hid (SurvS A9 (E + 1) E Gn wks LF (Es ++ [E]) s2) := p2
                          clear hSv hem hall p2 hc HI HS
                          go_wp2_with (go_at_call 17; (with_reducible refine HMk.out.mono ?_); rintro e w10 ⟨rfl, S10⟩)
                          exact ⟨⟨E + 1, E, E, k + 1, false, A9, R9, av8, ac8, s2, _, by first | rfl | go_num, by first | rfl | go_num, rfl, by first | rfl | go_num, rfl, by go_num, by omega, by omega, by omega, by omega, by omega, ⟨HA2.out.1, HA2.out.2.2.2, HA2.out.2.1, fun p hp => by have := HA2.out.2.2.1 p hp; omega⟩, HBig.out _ _ _ S10.out, ⟨fun _ => ⟨rfl, wks, LF, _, HI2.out, rfl⟩, fun h => by cases h⟩, S10⟩, by simp [intOf]; omega⟩
                        · have HMk : Hid (Calls Tryz.prog 17 #[.pointer (some ⟨l, 0, none⟩), .int .i64 (E : Int)] wr fun e w' => e = .returned (.int .i64 11) ∧ Hid (Stand (Sep (LD tB kB l d s2 ⟨wks, mk', Gn⟩) (EI base tB kB (.slice av8 (k + 1) ac8) R9)) w w' [])) := HS.out.onFst (EI.res _ _ _ _ _) fun F hF => hc wr F hF
                          have HI2 : Hid (EndS A9 mk' E Gn s2) := p2
                          clear hSv hem hall p2 hc HI HS
                          go_wp2_with (go_at_call 17; (with_reducible refine HMk.out.mono ?_); rintro e w10 ⟨rfl, S10⟩)
                          exact ⟨⟨E + 1, mk', E, k + 1, true, A9, R9, av8, ac8, s2, _, by first | rfl | go_num, by first | rfl | go_num, rfl, by first | rfl | go_num, rfl, by go_num, by omega, by omega, by omega, by omega, by omega, ⟨HA2.out.1, HA2.out.2.2.2, HA2.out.2.1, fun p hp => by have := HA2.out.2.2.1 p hp; omega⟩, HBig.out _ _ _ S10.out, ⟨fun h => (by cases h), fun _ => HI2.out⟩, S10⟩, by simp [intOf]; omega⟩
                      | true =>
                        have HI2 : Hid (EndS A9 mk' mk' Gn s) := HI.out.2 rfl mk'
                        clear HI
                        by_cases hj : j < 3
                        · have hjI : (j : Int) < 3 := by omega
                          go_wp2_with fail
                          exact ⟨⟨E, mk', mk', k + 1, true, A9, R9, av8, ac8, s, _, by first | rfl | go_num, by first | rfl | go_num, rfl, by first | rfl | go_num, rfl, by go_num, by omega, by omega, by omega, by omega, by omega, ⟨HA2.out.1, HA2.out.2.2.2, HA2.out.2.1, fun p hp => by have := HA2.out.2.2.1 p hp; omega⟩, HBig.out _ _ _ HS.out, ⟨fun h => (by cases h), fun _ => HI2.out⟩, HS⟩, by simp [intOf]; omega⟩
                        · have hjI : ¬ (j : Int) < 3 := by omega
                          go_wp2_with fail
                          exact ⟨⟨E, mk', mk', k + 1, true, A9, R9, av8, ac8, s, _, by first | rfl | go_num, by first | rfl | go_num, rfl, by first | rfl | go_num, rfl, by go_num, by omega, by omega, by omega, by omega, by omega, ⟨HA2.out.1, HA2.out.2.2.2, HA2.out.2.1, fun p hp => by have := HA2.out.2.2.1 p hp; omega⟩, HBig.out _ _ _ HS.out, ⟨fun h => (by cases h), fun _ => HI2.out⟩, HS⟩, by simp [intOf]; omega⟩
                · have n5 : (r5 == 1) = false := by rw [beq_eq_false_iff_ne]; exact h5
                  go_wp2_with (go_at_call 13; (with_reducible refine (HAm5.out _).mono ?_); rintro e w9 ⟨rfl, rfl⟩)
                  exact ⟨⟨E, mk', mk', k + 1, false, A9, R9, av8, ac8, s, ⟨W9, mk', Gn⟩, rfl, rfl, rfl, rfl, rfl, by go_num, by omega, by omega, by omega, by omega, by omega, ⟨HA2.out.1, HA2.out.2.2.2, HA2.out.2.1, HA2.out.2.2.1⟩, HB8, ⟨fun _ => ⟨rfl, W9, LF, Es, HS4.out.1, rfl⟩, fun h => by cases h⟩, S8⟩, by simp [intOf]; omega⟩
            · have n4 : (r4 == 0) = false := by rw [beq_eq_false_iff_ne]; exact h4
              obtain ⟨E, hE⟩ : ∃ E, E = ep' := ⟨_, rfl⟩
              subst hE
              have hE1 : E ≤ E ∧ E ≤ E + 1 := by omega
              as_aux_lemma =>
                have hAl : A.length = k := HA.out.2.2.1
                have HS2 : Hid (SurvS A E mk' Gn wks LF Es s) := HSv.out.up hE1.1 (by omega)
                have hl3 : r3 < wks.length := by rw [HSv.out.three]; exact hr3b
                obtain ⟨wk, hwk⟩ : ∃ wk, wks[r3]? = some wk := ⟨_, List.getElem?_eq_getElem hl3⟩
                have HEn : Hid (∀ u, Calls Tryz.prog 14 #[.int .i64 (E : Int), .int .i64 (k : Int), .int .i64 (k : Int)] u fun e w' => ∃ g x, e = .returned (.agg #[.int .u64 (tidN E k : Int), .slice (some ⟨g, 0, none⟩) 1 1]) ∧ Hid (w'.heap[g]? = some (boxJ tB kB x) ∧ OneAt w' x 2 (k : Int) ByteArray.empty ∧ u.heap.size ≤ g ∧ u.heap.size ≤ x) ∧ Below u.heap.size u w') := fun u => centry E k k u (by omega) (by omega)
                obtain ⟨T, hT⟩ : ∃ T, tidN E k = T := ⟨_, rfl⟩
                have hTk := tid_ok (ep := E) (sq := k) (by omega) (by omega)
                rw [hT] at HEn hTk
                have HTk : Hid ((TidOk T ∧ T / 8388608 = E) ∧ wk.2 < T) := ⟨hTk, by
                  have := HS2.out.wlast wk (List.mem_of_getElem? hwk)
                  rw [hAl, hT] at this
                  exact this⟩
                have HS3 : Hid (SurvS (A ++ [(T, k)]) E mk' Gn (wks.set r3 (wk.1 ++ [(T, k)], T)) LF Es s) := by
                  have := HS2.out.add hwk (by omega)
                  rw [hAl, hT] at this
                  exact this
                have HWk : Hid (wks[r3]? = some wk ∧ wk.1.length ≤ 30) := ⟨hwk, (HS2.out.wait hwk).1⟩
                clear hT hTk hl3 hwk
                go_wp2_with (first
                  | (go_at_call 13; (with_reducible refine (HAm4.out _).mono ?_); rintro e w3 ⟨rfl, rfl⟩)
                  | (go_at_call 14; (with_reducible refine (HEn.out _).mono ?_); rintro e w5 ⟨g, xx, rfl, E5, hb5⟩))
                obtain ⟨wB, hwB⟩ : ∃ u, w5.alloc (.cells #[.int .u64 (T : Int), .slice (some ⟨g, 0, none⟩) 1 1] 42) = u := ⟨_, rfl⟩
                obtain ⟨q, hq⟩ : ∃ q, w5.heap.size = q := ⟨_, rfl⟩
                have hbB : Below w5.heap.size w5 wB := by rw [← hwB]; exact (Below.refl _ _).alloc (Nat.le_refl _) _
                have hqB : wB.heap[q]? = some (.cells #[.int .u64 (T : Int), .slice (some ⟨g, 0, none⟩) 1 1] 42 (0, 0)) := by rw [← hwB, ← hq]; exact heap_new w5 _
                obtain ⟨oxx, hox⟩ : ∃ o, wB.heap[xx]? = some o := ⟨_, Array.getElem?_eq_getElem (Nat.lt_of_lt_of_le E5.out.2.1.1 hbB.size)⟩
                have HBx : Hid (OneAt wB xx 2 (k : Int) ByteArray.empty ∧ base ≤ g ∧ base ≤ xx ∧ g < q ∧ xx < q ∧ wr.heap.size ≤ g ∧ wr.heap.size ≤ xx) := ⟨E5.out.2.1.below hbB, Nat.le_trans HB.out E5.out.2.2.1, Nat.le_trans HB.out E5.out.2.2.2, by rw [← hq]; exact lt_of E5.out.1, by rw [← hq]; exact E5.out.2.1.1, E5.out.2.2.1, E5.out.2.2.2⟩
                have SB : Hid (Stand (Sep (LD tB kB l d s ⟨wks, mk', Gn⟩) (EI base tB kB (.slice av k ac) R)) w wB [(q, .cells #[.int .u64 (T : Int), .slice (some ⟨g, 0, none⟩) 1 1] 42 (0, 0)), (g, boxJ tB kB xx), (xx, oxx)]) := by
                  have h5 := hb5.trans (hbB.mono hb5.size)
                  obtain ⟨F, s1, s2, s3, s4, s5⟩ := HS.out.below (Sep.res (LD.res _ _ _ _ _ _) (EI.res _ _ _ _ _)) h5
                  obtain ⟨F0, r1, r2, r3', r4', r5'⟩ := HS.out
                  have hlt := (Sep.res (LD.res tB kB l d s ⟨wks, mk', Gn⟩) (EI.res base tB kB (.slice av k ac) R)).lt r1
                  have hws := r5'.size
                  refine ⟨F0, (Sep.res (LD.res _ _ _ _ _ _) (EI.res _ _ _ _ _)).kept (S := fun _ => False) r1 (Turn.ofBelow _ h5) (fun _ _ h => h), r2, fun p hp hF => ?_, fun p hp => ?_, s5⟩
                  · have := hlt p.1 hF
                    have hq5 := hb5.size
                    simp only [List.mem_cons, List.not_mem_nil, or_false] at hp
                    rcases hp with rfl | rfl | rfl
                    · have h1 : q < wr.heap.size := this
                      omega
                    · have h1 : g < wr.heap.size := this
                      have := HBx.out.2.2.2.2.2.1
                      omega
                    · have h1 : xx < wr.heap.size := this
                      have := HBx.out.2.2.2.2.2.2
                      omega
                  · simp only [List.mem_cons, List.not_mem_nil, or_false] at hp
                    rcases hp with rfl | rfl | rfl
                    · exact ⟨hqB, by have := hb5.size; show w.heap.size ≤ q; omega⟩
                    · exact ⟨(hbB.block _ (lt_of E5.out.1)).trans E5.out.1, by have := HBx.out.2.2.2.2.2.1; show w.heap.size ≤ g; omega⟩
                    · exact ⟨hox, by have := HBx.out.2.2.2.2.2.2; show w.heap.size ≤ xx; omega⟩
                have HAdd : Hid (∀ u, Below wB.heap.size wB u → Calls Tryz.prog 15 #[.pointer (some ⟨l, 0, none⟩), .int .i64 (r3 : Int), .agg #[.int .u64 (T : Int), .slice (some ⟨g, 0, none⟩) 1 1]] u fun e w' => e = .returned (.int .i64 0) ∧ w'.cell? ⟨q, 0, none⟩ = some (.int .u64 (T : Int)) ∧ w'.cell? ⟨q, 1, none⟩ = some (.slice (some ⟨g, 0, none⟩) 1 1) ∧ Hid (Stand (Sep (LD tB kB l d s ⟨wks.set r3 (wk.1 ++ [(T, k)], T), mk', Gn⟩) (EI base tB kB (.slice av k ac) R)) w w' [(q, .cells #[.int .u64 (T : Int), .slice (some ⟨g, 0, none⟩) 1 1] 42 (0, 0)), (g, boxJ tB kB xx), (xx, oxx)])) := fun u hu => by
                  have hSu := SB.out.below (Sep.res (LD.res _ _ _ _ _ _) (EI.res _ _ _ _ _)) hu
                  have hgu : u.heap[g]? = some (boxJ tB kB xx) := hSu.at (by simp)
                  have hxu : OneAt u xx 2 (k : Int) ByteArray.empty := HBx.out.1.below hu
                  have hh := hSu.onFst (I' := LD tB kB l d s ⟨wks.set r3 (wk.1 ++ [(T, k)], T), mk', Gn⟩) (E := .returned (.int .i64 0)) (f := 15) (args := #[.pointer (some ⟨l, 0, none⟩), .int .i64 (r3 : Int), .agg #[.int .u64 (T : Int), .slice (some ⟨g, 0, none⟩) 1 1]]) (EI.res _ _ _ _ _) fun F hF => cAdd_ok hF r3 T k g xx wk HWk.out.1 (by have := HWk.out.2; omega) HTk.out.1.1 hgu hxu (by omega) (by decide) (by decide) HTk.out.2 (show mk' < T / 8388608 by rw [HTk.out.1.2]; omega)
                  refine hh.mono ?_
                  rintro e w' ⟨e1, hS'⟩
                  have hq' := hS'.out.at (b := q) (o := .cells #[.int .u64 (T : Int), .slice (some ⟨g, 0, none⟩) 1 1] 42 (0, 0)) (by simp)
                  exact ⟨e1, by rw [cell_of hq']; rfl, by rw [cell_of hq']; rfl, hS'⟩
                rw [hwB, hq]
                have b0 : wB.cell? ⟨q, 0, none⟩ = some (.int .u64 (T : Int)) := by rw [cell_of hqB]; rfl
                have b1 : wB.cell? ⟨q, 1, none⟩ = some (.slice (some ⟨g, 0, none⟩) 1 1) := by rw [cell_of hqB]; rfl
                have HS4 : Hid (SurvS (A ++ [(T, k)]) E mk' Gn (wks.set r3 (wk.1 ++ [(T, k)], T)) LF Es s ∧ Es.length < (A ++ [(T, k)]).length + 1) := ⟨HS3.out, by
                  have := HSv.out.low.2
                  rw [List.length_append, List.length_singleton]
                  omega⟩
                have HA2 : Hid (AOk (A ++ [(T, k)]) ∧ (A ++ [(T, k)]).length = k + 1 ∧ (∀ p ∈ A ++ [(T, k)], p.1 / 8388608 ≤ E) ∧ (R ++ [Er.mk T k g xx]).map Er.tn = A ++ [(T, k)]) := ⟨⟨HS3.out.inc, fun p hp => (HS3.out.okA p hp).1, HS3.out.few⟩, by rw [List.length_append, hAl]; rfl, fun p hp => (HS3.out.okA p hp).2.2.1, by rw [List.map_append, HA.out.2.1]; rfl⟩
                have HRl : Hid (R.length = k) := by
                  have := congrArg List.length HA.out.2.1
                  rw [List.length_map] at this
                  show R.length = k
                  omega
                have HOx : Hid (wB.heap[xx]? = some oxx) := hox
                clear hwB hbB hqB hox hb5 E5 SB HS HS3 HS2 HSv HEn HAm4 HA hAl hq
                go_region_held3 (fun u => u.cell? ⟨q, 0, none⟩ = some (.int .u64 (T : Int)) ∧ u.cell? ⟨q, 1, none⟩ = some (.slice (some ⟨g, 0, none⟩) 1 1)) (go_keep)
                  (first
                    | (go_at_call 13; (with_reducible refine (HAm3.out _).mono ?_); rintro e w6 ⟨rfl, rfl⟩)
                    | (go_at_call 15; (with_reducible refine (HAdd.out _ (by go_grown)).mono ?_); rintro e w7 ⟨rfl, c0, c1, S7⟩))
                have HE7 : Hid (EntsO w7 base tB kB (.slice av k ac) R ∧ w7.heap[g]? = some (boxJ tB kB xx) ∧ OneAt w7 xx 2 (k : Int) ByteArray.empty ∧ (Value.slice av k ac).ownBlock ≠ some g ∧ (Value.slice av k ac).ownBlock ≠ some xx ∧ base ≤ w7.heap.size) := by
                  obtain ⟨p1, p2⟩ := S7.out.ents
                  have hg7 := S7.out.at (b := g) (o := boxJ tB kB xx) (by simp)
                  have hx7 := S7.out.at (b := xx) (o := oxx) (by simp)
                  exact ⟨p1, hg7, oneAt_heap HBx.out.1 HOx.out hx7, p2 (g, boxJ tB kB xx) (by simp), p2 (xx, oxx) (by simp), by have := lt_of hg7; have := HBx.out.2.1; omega⟩
                clear HAdd HAm3 b0 b1 HOx
                go_wp2_with (at_builtin; go_must (refine wpList_entX rfl _ _ rfl base tB kB (.slice av k ac) R rfl ?q1 (Er.mk T k g xx) w7.heap.size 1 rfl ?q2 ?q3 ?q4 ?q5 ?_))
                case q1 => exact HE7.out.1.below ((Below.refl _ _).alloc (Nat.le_refl _) _)
                case q2 =>
                  have h := heap_new w7 (.cells #[.int .u64 (T : Int), .slice (some ⟨g, 0, none⟩) 1 1] 42)
                  first
                    | exact h
                    | exact (Array.getElem?_eq_some_iff.1 h).2
                case q3 =>
                  have hb := (Below.refl w7.heap.size w7).alloc (Nat.le_refl _) (.cells #[.int .u64 (T : Int), .slice (some ⟨g, 0, none⟩) 1 1] 42)
                  obtain ⟨_, p2, p3, p4, p5, _⟩ := HE7.out
                  exact ⟨(hb.block _ (lt_of p2)).trans p2, p3.below hb, HBx.out.2.1, HBx.out.2.2.1, p4, p5⟩
                case q4 => have := HRl.out; omega
                case q5 => have := HE7.out.2.2.2.2.2; simp; omega
                intro v8 w8 HR8 HT8 HO8
                have hl8 : (R ++ [Er.mk T k g xx]).length = k + 1 := by rw [List.length_append, HRl.out]; rfl
                obtain ⟨av8, ac8, hv8⟩ := row_shapeJ HR8.out.row
                rw [hl8] at hv8
                subst hv8
                have S8 : Hid (Stand (Sep (LD tB kB l d s ⟨wks.set r3 (wk.1 ++ [(T, k)], T), mk', Gn⟩) (EI base tB kB (.slice av8 (k + 1) ac8) (R ++ [Er.mk T k g xx]))) w w8 []) := by
                  have hb := (Below.refl w7.heap.size w7).alloc (Nat.le_refl _) (.cells #[.int .u64 (T : Int), .slice (some ⟨g, 0, none⟩) 1 1] 42)
                  have hS := (S7.out.below (Sep.res (LD.res _ _ _ _ _ _) (EI.res _ _ _ _ _)) hb).drop (L' := [(g, boxJ tB kB xx), (xx, oxx)]) (fun p hp => by simp only [List.mem_cons, List.not_mem_nil, or_false] at hp ⊢; exact Or.inr hp)
                  exact Stand.grown (e := Er.mk T k g xx) (LD.res _ _ _ _ _ _) hS HBs.out.1 HR8.out HT8.out (by
                    rcases HO8.out with h | h
                    · exact Or.inl h
                    · exact Or.inr ⟨_, h, by simp⟩)
                have HB8 : Hid (base ≤ w8.heap.size) := by
                  have h1 := HE7.out.2.2.2.2.2
                  have h2 := HT8.out.size
                  rw [World.size_alloc] at h2
                  show base ≤ _
                  omega
                generalize hA9 : A ++ [(T, k)] = A9 at HS4 HA2
                generalize hR9 : R ++ [Er.mk T k g xx] = R9 at HA2 S8
                generalize hW9 : wks.set r3 (wk.1 ++ [(T, k)], T) = W9 at HS4 S8
                clear hA9 hR9 hW9 HE7 S7 HR8 HT8 HO8 HTk HWk HBx HRl hl8 HB
                by_cases h5 : r5 = 1
                · obtain rfl : r5 = 1 := h5
                  have HBig : Hid (∀ u (s : Dk.Dsk) (Lq : Lg), Stand (Sep (LD tB kB l d s Lq) (EI base tB kB (.slice av8 (k + 1) ac8) R9)) w u [] → base ≤ u.heap.size) := fun u s Lq hS => by
                    obtain ⟨p1, _⟩ := hS.ents
                    have h1 := congrArg List.length HA2.out.2.2.2
                    rw [List.length_map, HA2.out.2.1] at h1
                    have h2 : 0 < R9.length := by omega
                    obtain ⟨e1, _, e3, _⟩ := p1.ent R9[0] (List.getElem_mem h2)
                    have := lt_of e1
                    omega
                  have hEb : E ≤ ep + 2 * k + 1 := by omega
                  have hE6 : E < 1000000 := by omega
                  have hmE : mk' < E := by omega
                  have w2' : IntKind.i64.wrap ((E : Int) + 1) = ((E + 1 : Nat) : Int) := by rw [wrap_small _ (by omega) (by omega)]; omega
                  go_wp2_with (go_at_call 13; (with_reducible refine (HAm5.out _).mono ?_); rintro e w9 ⟨rfl, rfl⟩)
                  go_loopw [15, 19] (fun vd vj wr => ∃ (dn : Bool) (j : Nat) (s : Dk.Dsk) (Lq : Lg), vd = .bool dn ∧ vj = .int .i64 j ∧ j ≤ 3 ∧ Hid ((dn = false → ∃ wks LF, SurvS A9 E mk' Gn wks LF Es s ∧ Lq = ⟨wks, mk', Gn⟩ ∧ ∀ (x : Nat) (wk : Wk), wks[x]? = some wk → x < j → wk.1 = []) ∧ (dn = true → ∀ nx, EndS A9 mk' nx Gn s)) ∧ Hid (Stand (Sep (LD tB kB l d s Lq) (EI base tB kB (.slice av8 (k + 1) ac8) R9)) w wr [])) (fun _ vj _ => 3 - (intOf vj).toNat)
                  case atStart => exact ⟨false, 0, s, ⟨W9, mk', Gn⟩, rfl, rfl, by decide, ⟨fun _ => ⟨W9, LF, HS4.out.1, rfl, fun x wk _ h => by omega⟩, fun h => by cases h⟩, S8⟩
                  case round =>
                    clear S8
                    obtain ⟨dn, j, s, Lq, rfl, rfl, hj3, HI, HS⟩ := hrel
                    by_cases hg : j < 3 ∧ dn = false
                    · obtain ⟨hj, rfl⟩ := hg
                      obtain ⟨wks, LF, hSv, hLq, hem⟩ := HI.out.1 rfl
                      subst hLq
                      have hjI : (j : Int) < 3 := by omega
                      have hl : j < wks.length := by rw [hSv.three]; exact hj
                      obtain ⟨wk, hwk⟩ : ∃ wk, wks[j]? = some wk := ⟨_, List.getElem?_eq_getElem hl⟩
                      rcases sFlush (l := l) (d := d) hSv hj hwk with ⟨s2, LF2, p2, hc⟩ | ⟨s2, p2, hc⟩
                      · have HFl : Hid (Calls Tryz.prog 16 #[.pointer (some ⟨l, 0, none⟩), .int .i64 (j : Int)] wr fun e w' => e = .returned (.int .i64 0) ∧ Hid (Stand (Sep (LD tB kB l d s2 ⟨wks.set j ([], wk.2), mk', Gn⟩) (EI base tB kB (.slice av8 (k + 1) ac8) R9)) w w' [])) := HS.out.onFst (EI.res _ _ _ _ _) fun F hF => hc wr F hF
                        have HI2 : Hid (SurvS A9 E mk' Gn (wks.set j ([], wk.2)) LF2 Es s2 ∧ ∀ (x : Nat) (wk' : Wk), (wks.set j ([], wk.2))[x]? = some wk' → x < j + 1 → wk'.1 = []) := ⟨p2, fun x wk' hx hlt => by
                          rw [List.getElem?_set] at hx
                          by_cases hxj : j = x
                          · rw [if_pos hxj, if_pos hl] at hx
                            cases hx
                            rfl
                          · rw [if_neg hxj] at hx
                            exact hem x wk' hx (by omega)⟩
                        clear hSv hem hl hwk p2 hc HI HS
                        go_wp2_with (go_at_call 16; (with_reducible refine HFl.out.mono ?_); rintro e w10 ⟨rfl, S10⟩)
                        exact ⟨⟨false, j + 1, s2, _, rfl, by go_num, by omega, ⟨fun _ => ⟨_, LF2, HI2.out.1, rfl, HI2.out.2⟩, fun h => by cases h⟩, S10⟩, by simp [intOf]; omega⟩
                      · have HFl : Hid (Calls Tryz.prog 16 #[.pointer (some ⟨l, 0, none⟩), .int .i64 (j : Int)] wr fun e w' => e = .returned (.int .i64 11) ∧ Hid (Stand (Sep (LD tB kB l d s2 ⟨wks, mk', Gn⟩) (EI base tB kB (.slice av8 (k + 1) ac8) R9)) w w' [])) := HS.out.onFst (EI.res _ _ _ _ _) fun F hF => hc wr F hF
                        have HI2 : Hid (∀ nx, EndS A9 mk' nx Gn s2) := p2
                        clear hSv hem hl hwk p2 hc HI HS
                        go_wp2_with (go_at_call 16; (with_reducible refine HFl.out.mono ?_); rintro e w10 ⟨rfl, S10⟩)
                        exact ⟨⟨true, j + 1, s2, _, rfl, by go_num, by omega, ⟨fun h => (by cases h), fun _ => HI2.out⟩, S10⟩, by simp [intOf]; omega⟩
                    · cases dn with
                      | false =>
                        obtain rfl : j = 3 := by
                          have : ¬ j < 3 := fun h => hg ⟨h, rfl⟩
                          omega
                        obtain ⟨wks, LF, hSv, hLq, hem⟩ := HI.out.1 rfl
                        subst hLq
                        have hall : ∀ wk ∈ wks, wk.1 = [] := fun wk hwk => by
                          obtain ⟨x, hx, rfl⟩ := List.getElem_of_mem hwk
                          exact hem x _ (List.getElem?_eq_getElem hx) (by rw [← hSv.three]; exact hx)
                        rcases sMark (l := l) (d := d) hSv hall HS4.out.2 hE6 with ⟨s2, p2, hc⟩ | ⟨s2, p2, hc⟩
                        · have HMk : Hid (Calls Tryz.prog 17 #[.pointer (some ⟨l, 0, none⟩), .int .i64 (E : Int)] wr fun e w' => e = .returned (.int .i64 0) ∧ Hid (Stand (Sep (LD tB kB l d s2 ⟨wks, E, Gn⟩) (EI base tB kB (.slice av8 (k + 1) ac8) R9)) w w' [])) := HS.out.onFst (EI.res _ _ _ _ _) fun F hF => hc wr F hF
                          have HI2 : Hid (SurvS A9 (E + 1) E Gn wks LF (Es ++ [E]) s2) := p2
                          clear hSv hem hall p2 hc HI HS
                          go_wp2_with (go_at_call 17; (with_reducible refine HMk.out.mono ?_); rintro e w10 ⟨rfl, S10⟩)
                          exact ⟨⟨E + 1, E, E, k + 1, false, A9, R9, av8, ac8, s2, _, by first | rfl | go_num, by first | rfl | go_num, rfl, by first | rfl | go_num, rfl, by go_num, by omega, by omega, by omega, by omega, by omega, ⟨HA2.out.1, HA2.out.2.2.2, HA2.out.2.1, fun p hp => by have := HA2.out.2.2.1 p hp; omega⟩, HBig.out _ _ _ S10.out, ⟨fun _ => ⟨rfl, wks, LF, _, HI2.out, rfl⟩, fun h => by cases h⟩, S10⟩, by simp [intOf]; omega⟩
                        · have HMk : Hid (Calls Tryz.prog 17 #[.pointer (some ⟨l, 0, none⟩), .int .i64 (E : Int)] wr fun e w' => e = .returned (.int .i64 11) ∧ Hid (Stand (Sep (LD tB kB l d s2 ⟨wks, mk', Gn⟩) (EI base tB kB (.slice av8 (k + 1) ac8) R9)) w w' [])) := HS.out.onFst (EI.res _ _ _ _ _) fun F hF => hc wr F hF
                          have HI2 : Hid (EndS A9 mk' E Gn s2) := p2
                          clear hSv hem hall p2 hc HI HS
                          go_wp2_with (go_at_call 17; (with_reducible refine HMk.out.mono ?_); rintro e w10 ⟨rfl, S10⟩)
                          exact ⟨⟨E + 1, mk', E, k + 1, true, A9, R9, av8, ac8, s2, _, by first | rfl | go_num, by first | rfl | go_num, rfl, by first | rfl | go_num, rfl, by go_num, by omega, by omega, by omega, by omega, by omega, ⟨HA2.out.1, HA2.out.2.2.2, HA2.out.2.1, fun p hp => by have := HA2.out.2.2.1 p hp; omega⟩, HBig.out _ _ _ S10.out, ⟨fun h => (by cases h), fun _ => HI2.out⟩, S10⟩, by simp [intOf]; omega⟩
                      | true =>
                        have HI2 : Hid (EndS A9 mk' mk' Gn s) := HI.out.2 rfl mk'
                        clear HI
                        by_cases hj : j < 3
                        · have hjI : (j : Int) < 3 := by omega
                          go_wp2_with fail
                          exact ⟨⟨E, mk', mk', k + 1, true, A9, R9, av8, ac8, s, _, by first | rfl | go_num, by first | rfl | go_num, rfl, by first | rfl | go_num, rfl, by go_num, by omega, by omega, by omega, by omega, by omega, ⟨HA2.out.1, HA2.out.2.2.2, HA2.out.2.1, fun p hp => by have := HA2.out.2.2.1 p hp; omega⟩, HBig.out _ _ _ HS.out, ⟨fun h => (by cases h), fun _ => HI2.out⟩, HS⟩, by simp [intOf]; omega⟩
                        · have hjI : ¬ (j : Int) < 3 := by omega
                          go_wp2_with fail
                          exact ⟨⟨E, mk', mk', k + 1, true, A9, R9, av8, ac8, s, _, by first | rfl | go_num, by first | rfl | go_num, rfl, by first | rfl | go_num, rfl, by go_num, by omega, by omega, by omega, by omega, by omega, ⟨HA2.out.1, HA2.out.2.2.2, HA2.out.2.1, fun p hp => by have := HA2.out.2.2.1 p hp; omega⟩, HBig.out _ _ _ HS.out, ⟨fun h => (by cases h), fun _ => HI2.out⟩, HS⟩, by simp [intOf]; omega⟩
                · have n5 : (r5 == 1) = false := by rw [beq_eq_false_iff_ne]; exact h5
                  go_wp2_with (go_at_call 13; (with_reducible refine (HAm5.out _).mono ?_); rintro e w9 ⟨rfl, rfl⟩)
                  exact ⟨⟨E, mk', mk', k + 1, false, A9, R9, av8, ac8, s, ⟨W9, mk', Gn⟩, rfl, rfl, rfl, rfl, rfl, by go_num, by omega, by omega, by omega, by omega, by omega, ⟨HA2.out.1, HA2.out.2.2.2, HA2.out.2.1, HA2.out.2.2.1⟩, HB8, ⟨fun _ => ⟨rfl, W9, LF, Es, HS4.out.1, rfl⟩, fun h => by cases h⟩, S8⟩, by simp [intOf]; omega⟩
          · have HEnd : Hid (EndS A mk' nx Gn s) := by
              cases dn with
              | false =>
                obtain ⟨h1, wks, LF, Es, hSv, _⟩ := HI.out.1 rfl
                exact hSv.end0 rfl
              | true => exact HI.out.2 rfl
            obtain ⟨LF2, Es2, hC2, hD2, hP2⟩ := HEnd.out ds
            obtain ⟨c2, hc2⟩ : ∃ c, (⟨Dk.crashL s.fs ds, false, false, 0⟩ : Dk.Dsk) = c := ⟨_, rfl⟩
            have hcf : Dk.crashL s.fs ds = c2.fs := by rw [← hc2]
            rw [hcf] at hP2
            rw [hc2] at hC2
            have hm2 : ManyOk (allE (lastE Es2) LF2 (Dk.keysL c2.fs)) := (HA.out.1.upTo _).many hP2
            have HCr : Hid (∀ u, Stand (Sep (LD tB kB l d s Lq) (EI base tB kB (.slice av k ac) R)) w u [] → Calls Tryz.prog 18 #[.pointer (some ⟨d, 0, none⟩), .slice aD nD cD] u fun e w' => e = .returned (.int .i64 0) ∧ Hid (Stand (Sep (DiskI d c2) (EI base tB kB (.slice av k ac) R)) w w' [])) := fun u hS => by
              have := sCrash (EI.res base tB kB (.slice av k ac) R) hS.lose (.slice aD nD cD) ds HDr.out.2 (by rw [← HDr.out.1]; omega)
              rw [hc2] at this
              exact this
            have HLd : Hid (∀ u, Stand (Sep (DiskI d c2) (EI base tB kB (.slice av k ac) R)) w u [] → Calls Tryz.prog 19 #[.pointer (some ⟨d, 0, none⟩)] u fun e w' => ∃ gv, e = .returned (.tuple #[gv, .int .i64 ((lastE Es2 : Nat) : Int), .int .i64 0]) ∧ ∃ R2, Hid (EntsO w' u.heap.size tB kB gv (sortE R2)) ∧ Hid ((sortE R2).map Er.tn = upTo (lastE Es2) A) ∧ Hid (Stand (Sep (DiskI d c2) (EI base tB kB (.slice av k ac) R)) w w' [])) := fun u hS => by
              refine (sLoad (EI.res base tB kB (.slice av k ac) R) hS hC2 hm2).mono ?_
              rintro e w' ⟨gv, e1, R2, g1, g2, g3⟩
              exact ⟨gv, e1, R2, g1, (HA.out.1.upTo _).got (by rw [g2.out]; exact hP2), g3⟩
            have HC3 : Hid (∃ LF Es, Crashed c2 LF Es Gn ∧ lastE Es = lastE Es2 ∧ ManyOk (allE (lastE Es2) LF (Dk.keysL c2.fs))) := ⟨LF2, Es2, hC2, rfl, hm2⟩
            obtain ⟨D, hD⟩ : ∃ D, lastE Es2 = D := ⟨_, rfl⟩
            rw [hD] at hD2 HLd HC3
            have hDe : D ≤ ep' := by rcases hD2 with rfl | rfl <;> omega
            clear hC2 hP2 hm2 hcf hc2 hD HEnd HI HAd
            by_cases hk1 : k < nA
            · have hk1I : (k : Int) < (nA : Int) := by omega
              by_cases hk3 : k < 30
              · have hk3I : (k : Int) < 30 := by omega
                obtain rfl : dn = true := by
                  cases dn with
                  | true => rfl
                  | false => exact absurd ⟨hk1, hk3, rfl⟩ hgo
                clear hgo
                by_cases hDm : D = mk'
                · subst hDm
                  go_wp2_with (first
                    | (go_at_call 18; (with_reducible refine (HCr.out _ HS.out).mono ?_); rintro e w9 ⟨rfl, S9⟩)
                    | (go_at_call 19; (with_reducible refine (HLd.out _ S9.out).mono ?_); rintro e w10 ⟨gv, rfl, R2, HG, HGt, S10⟩))
                  as_aux_lemma =>
                    have HRow : Hid (∀ (u : World) (j : Nat), Below w10.heap.size w10 u → j < k → ∃ bl T n g x : Nat, av = some ⟨bl, 0, none⟩ ∧ k ≤ ac ∧ ac ≤ 9223372036854775807 ∧ u.cell? ⟨bl, j * 2, none⟩ = some (.int .u64 (T : Int)) ∧ u.cell? ⟨bl, j * 2 + 1, none⟩ = some (.slice (some ⟨g, 0, none⟩) 1 1) ∧ A[j]? = some (T, n) ∧ TidOk T ∧
                        (u.heap[g]? = some (boxJ tB kB x) ∧ OneAt u x 2 (n : Int) ByteArray.empty ∧ base ≤ g ∧ base ≤ x ∧ g < w10.heap.size ∧ x < w10.heap.size)) := fun u j hu hj => added_at S10.out.ents.1 HA.out.2.1 HA.out.2.2.1 HA.out.1 u hu j hj
                    have HSt : Hid (∀ u, Below w10.heap.size w10 u → Stand (DiskI d c2) w u []) := fun u hu => (S10.out.below (Sep.res (DiskI.res _ _) (EI.res _ _ _ _ _)) hu).sndOff
                    have HTa : Hid (A.take k = A) := by
                      have := HA.out.2.2.1
                      exact List.take_of_length_le (by omega)
                    have HSe : Hid (∀ (u : World) (v : Value) (W : List Er), Below w10.heap.size w10 u → EntsO u base tB kB v W → W.map Er.tn = upTo D A → Calls Tryz.prog 21 #[gv, v] u fun e w' => e = .returned (.bool true) ∧ Below u.heap.size u w') := fun u v W hu hW hWt =>
                      sameEntries_any tB kB gv v (sortE R2) W _ base u (HG.out.below hu) hW (by rw [HGt.out, hWt]) (by
                        have h1 := congrArg List.length HGt.out
                        have h2 : (upTo D A).length ≤ A.length := List.length_filter_le _ _
                        have h3 := HA.out.1.few
                        rw [List.length_map] at h1
                        omega)
                    have HU : Hid (∀ (T : Nat) u, TidOk T → Calls Tryz.prog 20 #[.int .u64 (T : Int)] u fun y w' => y = .returned (.tuple #[.int .i64 ((T / 8388608 : Nat) : Int), .int .i64 ((T : Int) / 8 % 1048576), .bool ((T : Int) % 2 != 0), .bool ((T : Int) / 2 % 2 * 2 != 0), .bool ((T : Int) / 4 % 2 * 4 != 0), .int .i64 0]) ∧ u = w') := fun T u hT => (unpack_yes (T : Int) u (by omega) (by have := hT.lt; omega) hT.may).mono fun _ _ h => ⟨h.1, h.2.symm⟩
                    have HAl : Hid (A.length = k ∧ k ≤ 30) := ⟨HA.out.2.2.1, hk30⟩
                    clear HG HGt S10 HA HLd HCr HS
                    go_loopw [23, 196] (fun vw vj wr => ∃ (j : Nat) (W : List Er), j ≤ k ∧ vj = .int .i64 j ∧ Hid (EntsO wr base tB kB vw W ∧ ∀ q, vw.ownBlock = some q → w10.heap.size ≤ q) ∧ Hid (W.map Er.tn = upTo D (A.take j)) ∧ Hid (Below w10.heap.size w10 wr)) (fun _ vj _ => k - (intOf vj).toNat)
                    case atStart => exact ⟨0, [], Nat.zero_le _, rfl, ⟨ents_nil, fun q h => by cases h⟩, (rfl : _ = _), Below.refl _ _⟩
                    case round =>
                      obtain ⟨j, W, hj, rfl, HW, HWt, HBr⟩ := hrel
                      by_cases hlt : j < k
                      · obtain ⟨bl, T, nn, g, x, rfl, hc1, hc2, p0, p1, hAj, hT, hent⟩ := HRow.out wr j HBr.out hlt
                        have hlI : (j : Int) < (k : Int) := by omega
                        have HUT : Hid (∀ u, Calls Tryz.prog 20 #[.int .u64 (T : Int)] u fun y w' => y = .returned (.tuple #[.int .i64 ((T / 8388608 : Nat) : Int), .int .i64 ((T : Int) / 8 % 1048576), .bool ((T : Int) % 2 != 0), .bool ((T : Int) / 2 % 2 * 2 != 0), .bool ((T : Int) / 4 % 2 * 4 != 0), .int .i64 0]) ∧ u = w') := fun u => HU.out T u hT
                        have hje : j < A.length := by have := HAl.out.1; omega
                        have hun := upTo_next (D := D) hje
                        have hAe : A[j] = (T, nn) := by
                          have := hAj
                          rw [List.getElem?_eq_getElem hje] at this
                          exact Option.some.inj this
                        rw [hAe, ← HWt.out] at hun
                        simp only at hun
                        have HEn : Hid (wr.heap[g]? = some (boxJ tB kB x) ∧ OneAt wr x 2 (nn : Int) ByteArray.empty ∧ base ≤ g ∧ base ≤ x ∧ g < w10.heap.size ∧ x < w10.heap.size) := hent
                        have HWl : Hid (W.length ≤ 1000) := by
                          have h1 := congrArg List.length HWt.out
                          rw [List.length_map] at h1
                          have h2 : (upTo D (A.take j)).length ≤ (A.take j).length := List.length_filter_le _ _
                          rw [List.length_take] at h2
                          have := HAl.out
                          show W.length ≤ 1000
                          omega
                        obtain ⟨Ep, hEp⟩ : ∃ q, T / 8388608 = q := ⟨_, rfl⟩
                        rw [hEp] at HUT hun
                        have HUn : Hid (upTo D (A.take (j + 1)) = if Ep ≤ D then W.map Er.tn ++ [(T, nn)] else W.map Er.tn) := hun
                        clear hun hAe hAj hje hEp hT hent HWt
                        go_wp2_with fail
                        obtain ⟨wB, hwB⟩ : ∃ u, wr.alloc (.cells #[.int .u64 (T : Int), .slice (some ⟨g, 0, none⟩) 1 1] 42) = u := ⟨_, rfl⟩
                        obtain ⟨q, hq⟩ : ∃ q, wr.heap.size = q := ⟨_, rfl⟩
                        have hbB : Below wr.heap.size wr wB := by rw [← hwB]; exact (Below.refl _ _).alloc (Nat.le_refl _) _
                        have hqB : wB.heap[q]? = some (.cells #[.int .u64 (T : Int), .slice (some ⟨g, 0, none⟩) 1 1] 42 (0, 0)) := by rw [← hwB, ← hq]; exact heap_new wr _
                        have b0 : wB.cell? ⟨q, 0, none⟩ = some (.int .u64 (T : Int)) := by rw [cell_of hqB]; rfl
                        have b1 : wB.cell? ⟨q, 1, none⟩ = some (.slice (some ⟨g, 0, none⟩) 1 1) := by rw [cell_of hqB]; rfl
                        have HBB : Hid (Below w10.heap.size w10 wB) := HBr.out.trans (hbB.mono HBr.out.size)
                        have HWB : Hid (EntsO wB base tB kB u23 W ∧ (∀ q, u23.ownBlock = some q → w10.heap.size ≤ q) ∧ wB.heap[g]? = some (boxJ tB kB x) ∧ OneAt wB x 2 (nn : Int) ByteArray.empty ∧ base ≤ g ∧ base ≤ x ∧ u23.ownBlock ≠ some g ∧ u23.ownBlock ≠ some x) := by
                          obtain ⟨e1, e2, e3, e4, e5, e6⟩ := HEn.out
                          refine ⟨HW.out.1.below hbB, HW.out.2, (hbB.block _ (lt_of e1)).trans e1, e2.below hbB, e3, e4, fun h => ?_, fun h => ?_⟩
                          · have := HW.out.2 _ h
                            omega
                          · have := HW.out.2 _ h
                            omega
                        rw [hwB, hq]
                        clear hwB hbB hqB HW HEn HBr hq p0 p1
                        (with_reducible refine (HUT.out _).mono ?_)
                        rintro e w12 ⟨rfl, rfl⟩
                        by_cases hle : Ep ≤ D
                        · have hleI : (Ep : Int) ≤ (D : Int) := by omega
                          go_wp2_with (at_builtin; go_must (refine wpList_entX rfl _ _ rfl base tB kB u23 W rfl ?q1 (Er.mk T nn g x) wB.heap.size 1 rfl ?q2 ?q3 ?q4 ?q5 ?_))
                          case q1 => exact HWB.out.1.below ((Below.refl _ _).alloc (Nat.le_refl _) _)
                          case q2 =>
                            have h := heap_new wB (.cells #[.int .u64 (T : Int), .slice (some ⟨g, 0, none⟩) 1 1] 42)
                            first
                              | exact h
                              | exact (Array.getElem?_eq_some_iff.1 h).2
                          case q3 =>
                            have hb := (Below.refl wB.heap.size wB).alloc (Nat.le_refl _) (.cells #[.int .u64 (T : Int), .slice (some ⟨g, 0, none⟩) 1 1] 42)
                            obtain ⟨_, _, p2, p3, p4, p5, p6, p7⟩ := HWB.out
                            exact ⟨(hb.block _ (lt_of p2)).trans p2, p3.below hb, p4, p5, p6, p7⟩
                          case q4 => have := HWl.out; omega
                          case q5 => have h1 := lt_of HWB.out.2.2.1; have h2 := HWB.out.2.2.2.2.1; simp; omega
                          intro v8 w8 HR8 HT8 HO8
                          have HB8 : Hid (Below w10.heap.size w10 w8) := by
                            have hb := HBB.out.trans (((Below.refl wB.heap.size wB).alloc (Nat.le_refl _) (.cells #[.int .u64 (T : Int), .slice (some ⟨g, 0, none⟩) 1 1] 42)).mono HBB.out.size)
                            exact hb.trans ((HT8.out.mono (S' := fun i => w10.heap.size ≤ i) fun i hi => HWB.out.2.1 i hi).toBelow hb.size)
                          have HO9 : Hid (∀ q, v8.ownBlock = some q → w10.heap.size ≤ q) := fun q h => by
                            rcases HO8.out with e | e
                            · rw [e] at h
                              exact HWB.out.2.1 q h
                            · rw [e] at h
                              have h2 := Option.some.inj h
                              have := HBB.out.size
                              omega
                          go_wp2_with fail
                          exact ⟨⟨j + 1, W ++ [Er.mk T nn g x], by omega, by go_num, ⟨HR8.out, HO9.out⟩, (by rw [List.map_append, HUn.out, if_pos hle]; rfl : (W ++ [Er.mk T nn g x]).map Er.tn = upTo D (A.take (j + 1))), HB8⟩, by simp [intOf]; omega⟩
                        · have hleI : ¬ (Ep : Int) ≤ (D : Int) := by omega
                          go_wp2_with fail
                          exact ⟨⟨j + 1, W, by omega, by go_num, ⟨HWB.out.1, HWB.out.2.1⟩, (by rw [HUn.out, if_neg hle] : W.map Er.tn = upTo D (A.take (j + 1))), HBB⟩, by simp [intOf]; omega⟩
                      · obtain rfl : j = k := by omega
                        have hlI : ¬ (j : Int) < (j : Int) := by omega
                        have HWt2 : W.map Er.tn = upTo D A := by
                          have := HWt.out
                          rw [HTa.out] at this
                          exact this
                        have HSe2 := HSe.out wr _ W HBr.out HW.out.1 HWt2
                        have w9' : IntKind.i64.wrap ((ep' : Int) + 1) = ((ep' + 1 : Nat) : Int) := by rw [wrap_small _ (by omega) (by omega)]; omega
                        have hDI : (D : Int) ≤ (ep' : Int) := by omega
                        have hDI2 : ¬ (ep' : Int) < (D : Int) := by omega
                        clear HRow
                        go_wp2_with (go_at_call 21; (with_reducible refine HSe2.mono ?_); rintro e w11 ⟨rfl, hb11⟩)
                        exact ⟨⟨ep' + 1, D, i + 1, Gn, c2, (by congr 1; omega), rfl, by go_num, by omega, by omega, by omega, by omega, by omega, HC3, HSt.out _ (HBr.out.trans (hb11.mono HBr.out.size))⟩, by simp [intOf]; omega⟩
                · have hDn := hD2.resolve_left hDm
                  subst hDn
                  have m1 : ((D : Int) != (mk' : Int)) = true := by simp; omega
                  go_wp2_with (first
                    | (go_at_call 18; (with_reducible refine (HCr.out _ HS.out).mono ?_); rintro e w9 ⟨rfl, S9⟩)
                    | (go_at_call 19; (with_reducible refine (HLd.out _ S9.out).mono ?_); rintro e w10 ⟨gv, rfl, R2, HG, HGt, S10⟩))
                  as_aux_lemma =>
                    have HRow : Hid (∀ (u : World) (j : Nat), Below w10.heap.size w10 u → j < k → ∃ bl T n g x : Nat, av = some ⟨bl, 0, none⟩ ∧ k ≤ ac ∧ ac ≤ 9223372036854775807 ∧ u.cell? ⟨bl, j * 2, none⟩ = some (.int .u64 (T : Int)) ∧ u.cell? ⟨bl, j * 2 + 1, none⟩ = some (.slice (some ⟨g, 0, none⟩) 1 1) ∧ A[j]? = some (T, n) ∧ TidOk T ∧
                        (u.heap[g]? = some (boxJ tB kB x) ∧ OneAt u x 2 (n : Int) ByteArray.empty ∧ base ≤ g ∧ base ≤ x ∧ g < w10.heap.size ∧ x < w10.heap.size)) := fun u j hu hj => added_at S10.out.ents.1 HA.out.2.1 HA.out.2.2.1 HA.out.1 u hu j hj
                    have HSt : Hid (∀ u, Below w10.heap.size w10 u → Stand (DiskI d c2) w u []) := fun u hu => (S10.out.below (Sep.res (DiskI.res _ _) (EI.res _ _ _ _ _)) hu).sndOff
                    have HTa : Hid (A.take k = A) := by
                      have := HA.out.2.2.1
                      exact List.take_of_length_le (by omega)
                    have HSe : Hid (∀ (u : World) (v : Value) (W : List Er), Below w10.heap.size w10 u → EntsO u base tB kB v W → W.map Er.tn = upTo D A → Calls Tryz.prog 21 #[gv, v] u fun e w' => e = .returned (.bool true) ∧ Below u.heap.size u w') := fun u v W hu hW hWt =>
                      sameEntries_any tB kB gv v (sortE R2) W _ base u (HG.out.below hu) hW (by rw [HGt.out, hWt]) (by
                        have h1 := congrArg List.length HGt.out
                        have h2 : (upTo D A).length ≤ A.length := List.length_filter_le _ _
                        have h3 := HA.out.1.few
                        rw [List.length_map] at h1
                        omega)
                    have HU : Hid (∀ (T : Nat) u, TidOk T → Calls Tryz.prog 20 #[.int .u64 (T : Int)] u fun y w' => y = .returned (.tuple #[.int .i64 ((T / 8388608 : Nat) : Int), .int .i64 ((T : Int) / 8 % 1048576), .bool ((T : Int) % 2 != 0), .bool ((T : Int) / 2 % 2 * 2 != 0), .bool ((T : Int) / 4 % 2 * 4 != 0), .int .i64 0]) ∧ u = w') := fun T u hT => (unpack_yes (T : Int) u (by omega) (by have := hT.lt; omega) hT.may).mono fun _ _ h => ⟨h.1, h.2.symm⟩
                    have HAl : Hid (A.length = k ∧ k ≤ 30) := ⟨HA.out.2.2.1, hk30⟩
                    clear HG HGt S10 HA HLd HCr HS
                    go_loopw [23, 196] (fun vw vj wr => ∃ (j : Nat) (W : List Er), j ≤ k ∧ vj = .int .i64 j ∧ Hid (EntsO wr base tB kB vw W ∧ ∀ q, vw.ownBlock = some q → w10.heap.size ≤ q) ∧ Hid (W.map Er.tn = upTo D (A.take j)) ∧ Hid (Below w10.heap.size w10 wr)) (fun _ vj _ => k - (intOf vj).toNat)
                    case atStart => exact ⟨0, [], Nat.zero_le _, rfl, ⟨ents_nil, fun q h => by cases h⟩, (rfl : _ = _), Below.refl _ _⟩
                    case round =>
                      obtain ⟨j, W, hj, rfl, HW, HWt, HBr⟩ := hrel
                      by_cases hlt : j < k
                      · obtain ⟨bl, T, nn, g, x, rfl, hc1, hc2, p0, p1, hAj, hT, hent⟩ := HRow.out wr j HBr.out hlt
                        have hlI : (j : Int) < (k : Int) := by omega
                        have HUT : Hid (∀ u, Calls Tryz.prog 20 #[.int .u64 (T : Int)] u fun y w' => y = .returned (.tuple #[.int .i64 ((T / 8388608 : Nat) : Int), .int .i64 ((T : Int) / 8 % 1048576), .bool ((T : Int) % 2 != 0), .bool ((T : Int) / 2 % 2 * 2 != 0), .bool ((T : Int) / 4 % 2 * 4 != 0), .int .i64 0]) ∧ u = w') := fun u => HU.out T u hT
                        have hje : j < A.length := by have := HAl.out.1; omega
                        have hun := upTo_next (D := D) hje
                        have hAe : A[j] = (T, nn) := by
                          have := hAj
                          rw [List.getElem?_eq_getElem hje] at this
                          exact Option.some.inj this
                        rw [hAe, ← HWt.out] at hun
                        simp only at hun
                        have HEn : Hid (wr.heap[g]? = some (boxJ tB kB x) ∧ OneAt wr x 2 (nn : Int) ByteArray.empty ∧ base ≤ g ∧ base ≤ x ∧ g < w10.heap.size ∧ x < w10.heap.size) := hent
                        have HWl : Hid (W.length ≤ 1000) := by
                          have h1 := congrArg List.length HWt.out
                          rw [List.length_map] at h1
                          have h2 : (upTo D (A.take j)).length ≤ (A.take j).length := List.length_filter_le _ _
                          rw [List.length_take] at h2
                          have := HAl.out
                          show W.length ≤ 1000
                          omega
                        obtain ⟨Ep, hEp⟩ : ∃ q, T / 8388608 = q := ⟨_, rfl⟩
                        rw [hEp] at HUT hun
                        have HUn : Hid (upTo D (A.take (j + 1)) = if Ep ≤ D then W.map Er.tn ++ [(T, nn)] else W.map Er.tn) := hun
                        clear hun hAe hAj hje hEp hT hent HWt
                        go_wp2_with fail
                        obtain ⟨wB, hwB⟩ : ∃ u, wr.alloc (.cells #[.int .u64 (T : Int), .slice (some ⟨g, 0, none⟩) 1 1] 42) = u := ⟨_, rfl⟩
                        obtain ⟨q, hq⟩ : ∃ q, wr.heap.size = q := ⟨_, rfl⟩
                        have hbB : Below wr.heap.size wr wB := by rw [← hwB]; exact (Below.refl _ _).alloc (Nat.le_refl _) _
                        have hqB : wB.heap[q]? = some (.cells #[.int .u64 (T : Int), .slice (some ⟨g, 0, none⟩) 1 1] 42 (0, 0)) := by rw [← hwB, ← hq]; exact heap_new wr _
                        have b0 : wB.cell? ⟨q, 0, none⟩ = some (.int .u64 (T : Int)) := by rw [cell_of hqB]; rfl
                        have b1 : wB.cell? ⟨q, 1, none⟩ = some (.slice (some ⟨g, 0, none⟩) 1 1) := by rw [cell_of hqB]; rfl
                        have HBB : Hid (Below w10.heap.size w10 wB) := HBr.out.trans (hbB.mono HBr.out.size)
                        have HWB : Hid (EntsO wB base tB kB u23 W ∧ (∀ q, u23.ownBlock = some q → w10.heap.size ≤ q) ∧ wB.heap[g]? = some (boxJ tB kB x) ∧ OneAt wB x 2 (nn : Int) ByteArray.empty ∧ base ≤ g ∧ base ≤ x ∧ u23.ownBlock ≠ some g ∧ u23.ownBlock ≠ some x) := by
                          obtain ⟨e1, e2, e3, e4, e5, e6⟩ := HEn.out
                          refine ⟨HW.out.1.below hbB, HW.out.2, (hbB.block _ (lt_of e1)).trans e1, e2.below hbB, e3, e4, fun h => ?_, fun h => ?_⟩
                          · have := HW.out.2 _ h
                            omega
                          · have := HW.out.2 _ h
                            omega
                        rw [hwB, hq]
                        clear hwB hbB hqB HW HEn HBr hq p0 p1
                        (with_reducible refine (HUT.out _).mono ?_)
                        rintro e w12 ⟨rfl, rfl⟩
                        by_cases hle : Ep ≤ D
                        · have hleI : (Ep : Int) ≤ (D : Int) := by omega
                          go_wp2_with (at_builtin; go_must (refine wpList_entX rfl _ _ rfl base tB kB u23 W rfl ?q1 (Er.mk T nn g x) wB.heap.size 1 rfl ?q2 ?q3 ?q4 ?q5 ?_))
                          case q1 => exact HWB.out.1.below ((Below.refl _ _).alloc (Nat.le_refl _) _)
                          case q2 =>
                            have h := heap_new wB (.cells #[.int .u64 (T : Int), .slice (some ⟨g, 0, none⟩) 1 1] 42)
                            first
                              | exact h
                              | exact (Array.getElem?_eq_some_iff.1 h).2
                          case q3 =>
                            have hb := (Below.refl wB.heap.size wB).alloc (Nat.le_refl _) (.cells #[.int .u64 (T : Int), .slice (some ⟨g, 0, none⟩) 1 1] 42)
                            obtain ⟨_, _, p2, p3, p4, p5, p6, p7⟩ := HWB.out
                            exact ⟨(hb.block _ (lt_of p2)).trans p2, p3.below hb, p4, p5, p6, p7⟩
                          case q4 => have := HWl.out; omega
                          case q5 => have h1 := lt_of HWB.out.2.2.1; have h2 := HWB.out.2.2.2.2.1; simp; omega
                          intro v8 w8 HR8 HT8 HO8
                          have HB8 : Hid (Below w10.heap.size w10 w8) := by
                            have hb := HBB.out.trans (((Below.refl wB.heap.size wB).alloc (Nat.le_refl _) (.cells #[.int .u64 (T : Int), .slice (some ⟨g, 0, none⟩) 1 1] 42)).mono HBB.out.size)
                            exact hb.trans ((HT8.out.mono (S' := fun i => w10.heap.size ≤ i) fun i hi => HWB.out.2.1 i hi).toBelow hb.size)
                          have HO9 : Hid (∀ q, v8.ownBlock = some q → w10.heap.size ≤ q) := fun q h => by
                            rcases HO8.out with e | e
                            · rw [e] at h
                              exact HWB.out.2.1 q h
                            · rw [e] at h
                              have h2 := Option.some.inj h
                              have := HBB.out.size
                              omega
                          go_wp2_with fail
                          exact ⟨⟨j + 1, W ++ [Er.mk T nn g x], by omega, by go_num, ⟨HR8.out, HO9.out⟩, (by rw [List.map_append, HUn.out, if_pos hle]; rfl : (W ++ [Er.mk T nn g x]).map Er.tn = upTo D (A.take (j + 1))), HB8⟩, by simp [intOf]; omega⟩
                        · have hleI : ¬ (Ep : Int) ≤ (D : Int) := by omega
                          go_wp2_with fail
                          exact ⟨⟨j + 1, W, by omega, by go_num, ⟨HWB.out.1, HWB.out.2.1⟩, (by rw [HUn.out, if_neg hle] : W.map Er.tn = upTo D (A.take (j + 1))), HBB⟩, by simp [intOf]; omega⟩
                      · obtain rfl : j = k := by omega
                        have hlI : ¬ (j : Int) < (j : Int) := by omega
                        have HWt2 : W.map Er.tn = upTo D A := by
                          have := HWt.out
                          rw [HTa.out] at this
                          exact this
                        have HSe2 := HSe.out wr _ W HBr.out HW.out.1 HWt2
                        have w9' : IntKind.i64.wrap ((ep' : Int) + 1) = ((ep' + 1 : Nat) : Int) := by rw [wrap_small _ (by omega) (by omega)]; omega
                        have hDI : (D : Int) ≤ (ep' : Int) := by omega
                        have hDI2 : ¬ (ep' : Int) < (D : Int) := by omega
                        clear HRow
                        go_wp2_with (go_at_call 21; (with_reducible refine HSe2.mono ?_); rintro e w11 ⟨rfl, hb11⟩)
                        exact ⟨⟨ep' + 1, D, i + 1, Gn, c2, (by congr 1; omega), rfl, by go_num, by omega, by omega, by omega, by omega, by omega, HC3, HSt.out _ (HBr.out.trans (hb11.mono HBr.out.size))⟩, by simp [intOf]; omega⟩
              · have hk3I : ¬ (k : Int) < 30 := by omega
                clear hgo
                by_cases hDm : D = mk'
                · subst hDm
                  go_wp2_with (first
                    | (go_at_call 18; (with_reducible refine (HCr.out _ HS.out).mono ?_); rintro e w9 ⟨rfl, S9⟩)
                    | (go_at_call 19; (with_reducible refine (HLd.out _ S9.out).mono ?_); rintro e w10 ⟨gv, rfl, R2, HG, HGt, S10⟩))
                  as_aux_lemma =>
                    have HRow : Hid (∀ (u : World) (j : Nat), Below w10.heap.size w10 u → j < k → ∃ bl T n g x : Nat, av = some ⟨bl, 0, none⟩ ∧ k ≤ ac ∧ ac ≤ 9223372036854775807 ∧ u.cell? ⟨bl, j * 2, none⟩ = some (.int .u64 (T : Int)) ∧ u.cell? ⟨bl, j * 2 + 1, none⟩ = some (.slice (some ⟨g, 0, none⟩) 1 1) ∧ A[j]? = some (T, n) ∧ TidOk T ∧
                        (u.heap[g]? = some (boxJ tB kB x) ∧ OneAt u x 2 (n : Int) ByteArray.empty ∧ base ≤ g ∧ base ≤ x ∧ g < w10.heap.size ∧ x < w10.heap.size)) := fun u j hu hj => added_at S10.out.ents.1 HA.out.2.1 HA.out.2.2.1 HA.out.1 u hu j hj
                    have HSt : Hid (∀ u, Below w10.heap.size w10 u → Stand (DiskI d c2) w u []) := fun u hu => (S10.out.below (Sep.res (DiskI.res _ _) (EI.res _ _ _ _ _)) hu).sndOff
                    have HTa : Hid (A.take k = A) := by
                      have := HA.out.2.2.1
                      exact List.take_of_length_le (by omega)
                    have HSe : Hid (∀ (u : World) (v : Value) (W : List Er), Below w10.heap.size w10 u → EntsO u base tB kB v W → W.map Er.tn = upTo D A → Calls Tryz.prog 21 #[gv, v] u fun e w' => e = .returned (.bool true) ∧ Below u.heap.size u w') := fun u v W hu hW hWt =>
                      sameEntries_any tB kB gv v (sortE R2) W _ base u (HG.out.below hu) hW (by rw [HGt.out, hWt]) (by
                        have h1 := congrArg List.length HGt.out
                        have h2 : (upTo D A).length ≤ A.length := List.length_filter_le _ _
                        have h3 := HA.out.1.few
                        rw [List.length_map] at h1
                        omega)
                    have HU : Hid (∀ (T : Nat) u, TidOk T → Calls Tryz.prog 20 #[.int .u64 (T : Int)] u fun y w' => y = .returned (.tuple #[.int .i64 ((T / 8388608 : Nat) : Int), .int .i64 ((T : Int) / 8 % 1048576), .bool ((T : Int) % 2 != 0), .bool ((T : Int) / 2 % 2 * 2 != 0), .bool ((T : Int) / 4 % 2 * 4 != 0), .int .i64 0]) ∧ u = w') := fun T u hT => (unpack_yes (T : Int) u (by omega) (by have := hT.lt; omega) hT.may).mono fun _ _ h => ⟨h.1, h.2.symm⟩
                    have HAl : Hid (A.length = k ∧ k ≤ 30) := ⟨HA.out.2.2.1, hk30⟩
                    clear HG HGt S10 HA HLd HCr HS
                    go_loopw [23, 196] (fun vw vj wr => ∃ (j : Nat) (W : List Er), j ≤ k ∧ vj = .int .i64 j ∧ Hid (EntsO wr base tB kB vw W ∧ ∀ q, vw.ownBlock = some q → w10.heap.size ≤ q) ∧ Hid (W.map Er.tn = upTo D (A.take j)) ∧ Hid (Below w10.heap.size w10 wr)) (fun _ vj _ => k - (intOf vj).toNat)
                    case atStart => exact ⟨0, [], Nat.zero_le _, rfl, ⟨ents_nil, fun q h => by cases h⟩, (rfl : _ = _), Below.refl _ _⟩
                    case round =>
                      obtain ⟨j, W, hj, rfl, HW, HWt, HBr⟩ := hrel
                      by_cases hlt : j < k
                      · obtain ⟨bl, T, nn, g, x, rfl, hc1, hc2, p0, p1, hAj, hT, hent⟩ := HRow.out wr j HBr.out hlt
                        have hlI : (j : Int) < (k : Int) := by omega
                        have HUT : Hid (∀ u, Calls Tryz.prog 20 #[.int .u64 (T : Int)] u fun y w' => y = .returned (.tuple #[.int .i64 ((T / 8388608 : Nat) : Int), .int .i64 ((T : Int) / 8 % 1048576), .bool ((T : Int) % 2 != 0), .bool ((T : Int) / 2 % 2 * 2 != 0), .bool ((T : Int) / 4 % 2 * 4 != 0), .int .i64 0]) ∧ u = w') := fun u => HU.out T u hT
                        have hje : j < A.length := by have := HAl.out.1; omega
                        have hun := upTo_next (D := D) hje
                        have hAe : A[j] = (T, nn) := by
                          have := hAj
                          rw [List.getElem?_eq_getElem hje] at this
                          exact Option.some.inj this
                        rw [hAe, ← HWt.out] at hun
                        simp only at hun
                        have HEn : Hid (wr.heap[g]? = some (boxJ tB kB x) ∧ OneAt wr x 2 (nn : Int) ByteArray.empty ∧ base ≤ g ∧ base ≤ x ∧ g < w10.heap.size ∧ x < w10.heap.size) := hent
                        have HWl : Hid (W.length ≤ 1000) := by
                          have h1 := congrArg List.length HWt.out
                          rw [List.length_map] at h1
                          have h2 : (upTo D (A.take j)).length ≤ (A.take j).length := List.length_filter_le _ _
                          rw [List.length_take] at h2
                          have := HAl.out
                          show W.length ≤ 1000
                          omega
                        obtain ⟨Ep, hEp⟩ : ∃ q, T / 8388608 = q := ⟨_, rfl⟩
                        rw [hEp] at HUT hun
                        have HUn : Hid (upTo D (A.take (j + 1)) = if Ep ≤ D then W.map Er.tn ++ [(T, nn)] else W.map Er.tn) := hun
                        clear hun hAe hAj hje hEp hT hent HWt
                        go_wp2_with fail
                        obtain ⟨wB, hwB⟩ : ∃ u, wr.alloc (.cells #[.int .u64 (T : Int), .slice (some ⟨g, 0, none⟩) 1 1] 42) = u := ⟨_, rfl⟩
                        obtain ⟨q, hq⟩ : ∃ q, wr.heap.size = q := ⟨_, rfl⟩
                        have hbB : Below wr.heap.size wr wB := by rw [← hwB]; exact (Below.refl _ _).alloc (Nat.le_refl _) _
                        have hqB : wB.heap[q]? = some (.cells #[.int .u64 (T : Int), .slice (some ⟨g, 0, none⟩) 1 1] 42 (0, 0)) := by rw [← hwB, ← hq]; exact heap_new wr _
                        have b0 : wB.cell? ⟨q, 0, none⟩ = some (.int .u64 (T : Int)) := by rw [cell_of hqB]; rfl
                        have b1 : wB.cell? ⟨q, 1, none⟩ = some (.slice (some ⟨g, 0, none⟩) 1 1) := by rw [cell_of hqB]; rfl
                        have HBB : Hid (Below w10.heap.size w10 wB) := HBr.out.trans (hbB.mono HBr.out.size)
                        have HWB : Hid (EntsO wB base tB kB u23 W ∧ (∀ q, u23.ownBlock = some q → w10.heap.size ≤ q) ∧ wB.heap[g]? = some (boxJ tB kB x) ∧ OneAt wB x 2 (nn : Int) ByteArray.empty ∧ base ≤ g ∧ base ≤ x ∧ u23.ownBlock ≠ some g ∧ u23.ownBlock ≠ some x) := by
                          obtain ⟨e1, e2, e3, e4, e5, e6⟩ := HEn.out
                          refine ⟨HW.out.1.below hbB, HW.out.2, (hbB.block _ (lt_of e1)).trans e1, e2.below hbB, e3, e4, fun h => ?_, fun h => ?_⟩
                          · have := HW.out.2 _ h
                            omega
                          · have := HW.out.2 _ h
                            omega
                        rw [hwB, hq]
                        clear hwB hbB hqB HW HEn HBr hq p0 p1
                        (with_reducible refine (HUT.out _).mono ?_)
                        rintro e w12 ⟨rfl, rfl⟩
                        by_cases hle : Ep ≤ D
                        · have hleI : (Ep : Int) ≤ (D : Int) := by omega
                          go_wp2_with (at_builtin; go_must (refine wpList_entX rfl _ _ rfl base tB kB u23 W rfl ?q1 (Er.mk T nn g x) wB.heap.size 1 rfl ?q2 ?q3 ?q4 ?q5 ?_))
                          case q1 => exact HWB.out.1.below ((Below.refl _ _).alloc (Nat.le_refl _) _)
                          case q2 =>
                            have h := heap_new wB (.cells #[.int .u64 (T : Int), .slice (some ⟨g, 0, none⟩) 1 1] 42)
                            first
                              | exact h
                              | exact (Array.getElem?_eq_some_iff.1 h).2
                          case q3 =>
                            have hb := (Below.refl wB.heap.size wB).alloc (Nat.le_refl _) (.cells #[.int .u64 (T : Int), .slice (some ⟨g, 0, none⟩) 1 1] 42)
                            obtain ⟨_, _, p2, p3, p4, p5, p6, p7⟩ := HWB.out
                            exact ⟨(hb.block _ (lt_of p2)).trans p2, p3.below hb, p4, p5, p6, p7⟩
                          case q4 => have := HWl.out; omega
                          case q5 => have h1 := lt_of HWB.out.2.2.1; have h2 := HWB.out.2.2.2.2.1; simp; omega
                          intro v8 w8 HR8 HT8 HO8
                          have HB8 : Hid (Below w10.heap.size w10 w8) := by
                            have hb := HBB.out.trans (((Below.refl wB.heap.size wB).alloc (Nat.le_refl _) (.cells #[.int .u64 (T : Int), .slice (some ⟨g, 0, none⟩) 1 1] 42)).mono HBB.out.size)
                            exact hb.trans ((HT8.out.mono (S' := fun i => w10.heap.size ≤ i) fun i hi => HWB.out.2.1 i hi).toBelow hb.size)
                          have HO9 : Hid (∀ q, v8.ownBlock = some q → w10.heap.size ≤ q) := fun q h => by
                            rcases HO8.out with e | e
                            · rw [e] at h
                              exact HWB.out.2.1 q h
                            · rw [e] at h
                              have h2 := Option.some.inj h
                              have := HBB.out.size
                              omega
                          go_wp2_with fail
                          exact ⟨⟨j + 1, W ++ [Er.mk T nn g x], by omega, by go_num, ⟨HR8.out, HO9.out⟩, (by rw [List.map_append, HUn.out, if_pos hle]; rfl : (W ++ [Er.mk T nn g x]).map Er.tn = upTo D (A.take (j + 1))), HB8⟩, by simp [intOf]; omega⟩
                        · have hleI : ¬ (Ep : Int) ≤ (D : Int) := by omega
                          go_wp2_with fail
                          exact ⟨⟨j + 1, W, by omega, by go_num, ⟨HWB.out.1, HWB.out.2.1⟩, (by rw [HUn.out, if_neg hle] : W.map Er.tn = upTo D (A.take (j + 1))), HBB⟩, by simp [intOf]; omega⟩
                      · obtain rfl : j = k := by omega
                        have hlI : ¬ (j : Int) < (j : Int) := by omega
                        have HWt2 : W.map Er.tn = upTo D A := by
                          have := HWt.out
                          rw [HTa.out] at this
                          exact this
                        have HSe2 := HSe.out wr _ W HBr.out HW.out.1 HWt2
                        have w9' : IntKind.i64.wrap ((ep' : Int) + 1) = ((ep' + 1 : Nat) : Int) := by rw [wrap_small _ (by omega) (by omega)]; omega
                        have hDI : (D : Int) ≤ (ep' : Int) := by omega
                        have hDI2 : ¬ (ep' : Int) < (D : Int) := by omega
                        clear HRow
                        go_wp2_with (go_at_call 21; (with_reducible refine HSe2.mono ?_); rintro e w11 ⟨rfl, hb11⟩)
                        exact ⟨⟨ep' + 1, D, i + 1, Gn, c2, (by congr 1; omega), rfl, by go_num, by omega, by omega, by omega, by omega, by omega, HC3, HSt.out _ (HBr.out.trans (hb11.mono HBr.out.size))⟩, by simp [intOf]; omega⟩
                · have hDn := hD2.resolve_left hDm
                  subst hDn
                  have m1 : ((D : Int) != (mk' : Int)) = true := by simp; omega
                  go_wp2_with (first
                    | (go_at_call 18; (with_reducible refine (HCr.out _ HS.out).mono ?_); rintro e w9 ⟨rfl, S9⟩)
                    | (go_at_call 19; (with_reducible refine (HLd.out _ S9.out).mono ?_); rintro e w10 ⟨gv, rfl, R2, HG, HGt, S10⟩))
                  as_aux_lemma =>
                    have HRow : Hid (∀ (u : World) (j : Nat), Below w10.heap.size w10 u → j < k → ∃ bl T n g x : Nat, av = some ⟨bl, 0, none⟩ ∧ k ≤ ac ∧ ac ≤ 9223372036854775807 ∧ u.cell? ⟨bl, j * 2, none⟩ = some (.int .u64 (T : Int)) ∧ u.cell? ⟨bl, j * 2 + 1, none⟩ = some (.slice (some ⟨g, 0, none⟩) 1 1) ∧ A[j]? = some (T, n) ∧ TidOk T ∧
                        (u.heap[g]? = some (boxJ tB kB x) ∧ OneAt u x 2 (n : Int) ByteArray.empty ∧ base ≤ g ∧ base ≤ x ∧ g < w10.heap.size ∧ x < w10.heap.size)) := fun u j hu hj => added_at S10.out.ents.1 HA.out.2.1 HA.out.2.2.1 HA.out.1 u hu j hj
                    have HSt : Hid (∀ u, Below w10.heap.size w10 u → Stand (DiskI d c2) w u []) := fun u hu => (S10.out.below (Sep.res (DiskI.res _ _) (EI.res _ _ _ _ _)) hu).sndOff
                    have HTa : Hid (A.take k = A) := by
                      have := HA.out.2.2.1
                      exact List.take_of_length_le (by omega)
                    have HSe : Hid (∀ (u : World) (v : Value) (W : List Er), Below w10.heap.size w10 u → EntsO u base tB kB v W → W.map Er.tn = upTo D A → Calls Tryz.prog 21 #[gv, v] u fun e w' => e = .returned (.bool true) ∧ Below u.heap.size u w') := fun u v W hu hW hWt =>
                      sameEntries_any tB kB gv v (sortE R2) W _ base u (HG.out.below hu) hW (by rw [HGt.out, hWt]) (by
                        have h1 := congrArg List.length HGt.out
                        have h2 : (upTo D A).length ≤ A.length := List.length_filter_le _ _
                        have h3 := HA.out.1.few
                        rw [List.length_map] at h1
                        omega)
                    have HU : Hid (∀ (T : Nat) u, TidOk T → Calls Tryz.prog 20 #[.int .u64 (T : Int)] u fun y w' => y = .returned (.tuple #[.int .i64 ((T / 8388608 : Nat) : Int), .int .i64 ((T : Int) / 8 % 1048576), .bool ((T : Int) % 2 != 0), .bool ((T : Int) / 2 % 2 * 2 != 0), .bool ((T : Int) / 4 % 2 * 4 != 0), .int .i64 0]) ∧ u = w') := fun T u hT => (unpack_yes (T : Int) u (by omega) (by have := hT.lt; omega) hT.may).mono fun _ _ h => ⟨h.1, h.2.symm⟩
                    have HAl : Hid (A.length = k ∧ k ≤ 30) := ⟨HA.out.2.2.1, hk30⟩
                    clear HG HGt S10 HA HLd HCr HS
                    go_loopw [23, 196] (fun vw vj wr => ∃ (j : Nat) (W : List Er), j ≤ k ∧ vj = .int .i64 j ∧ Hid (EntsO wr base tB kB vw W ∧ ∀ q, vw.ownBlock = some q → w10.heap.size ≤ q) ∧ Hid (W.map Er.tn = upTo D (A.take j)) ∧ Hid (Below w10.heap.size w10 wr)) (fun _ vj _ => k - (intOf vj).toNat)
                    case atStart => exact ⟨0, [], Nat.zero_le _, rfl, ⟨ents_nil, fun q h => by cases h⟩, (rfl : _ = _), Below.refl _ _⟩
                    case round =>
                      obtain ⟨j, W, hj, rfl, HW, HWt, HBr⟩ := hrel
                      by_cases hlt : j < k
                      · obtain ⟨bl, T, nn, g, x, rfl, hc1, hc2, p0, p1, hAj, hT, hent⟩ := HRow.out wr j HBr.out hlt
                        have hlI : (j : Int) < (k : Int) := by omega
                        have HUT : Hid (∀ u, Calls Tryz.prog 20 #[.int .u64 (T : Int)] u fun y w' => y = .returned (.tuple #[.int .i64 ((T / 8388608 : Nat) : Int), .int .i64 ((T : Int) / 8 % 1048576), .bool ((T : Int) % 2 != 0), .bool ((T : Int) / 2 % 2 * 2 != 0), .bool ((T : Int) / 4 % 2 * 4 != 0), .int .i64 0]) ∧ u = w') := fun u => HU.out T u hT
                        have hje : j < A.length := by have := HAl.out.1; omega
                        have hun := upTo_next (D := D) hje
                        have hAe : A[j] = (T, nn) := by
                          have := hAj
                          rw [List.getElem?_eq_getElem hje] at this
                          exact Option.some.inj this
                        rw [hAe, ← HWt.out] at hun
                        simp only at hun
                        have HEn : Hid (wr.heap[g]? = some (boxJ tB kB x) ∧ OneAt wr x 2 (nn : Int) ByteArray.empty ∧ base ≤ g ∧ base ≤ x ∧ g < w10.heap.size ∧ x < w10.heap.size) := hent
                        have HWl : Hid (W.length ≤ 1000) := by
                          have h1 := congrArg List.length HWt.out
                          rw [List.length_map] at h1
                          have h2 : (upTo D (A.take j)).length ≤ (A.take j).length := List.length_filter_le _ _
                          rw [List.length_take] at h2
                          have := HAl.out
                          show W.length ≤ 1000
                          omega
                        obtain ⟨Ep, hEp⟩ : ∃ q, T / 8388608 = q := ⟨_, rfl⟩
                        rw [hEp] at HUT hun
                        have HUn : Hid (upTo D (A.take (j + 1)) = if Ep ≤ D then W.map Er.tn ++ [(T, nn)] else W.map Er.tn) := hun
                        clear hun hAe hAj hje hEp hT hent HWt
                        go_wp2_with fail
                        obtain ⟨wB, hwB⟩ : ∃ u, wr.alloc (.cells #[.int .u64 (T : Int), .slice (some ⟨g, 0, none⟩) 1 1] 42) = u := ⟨_, rfl⟩
                        obtain ⟨q, hq⟩ : ∃ q, wr.heap.size = q := ⟨_, rfl⟩
                        have hbB : Below wr.heap.size wr wB := by rw [← hwB]; exact (Below.refl _ _).alloc (Nat.le_refl _) _
                        have hqB : wB.heap[q]? = some (.cells #[.int .u64 (T : Int), .slice (some ⟨g, 0, none⟩) 1 1] 42 (0, 0)) := by rw [← hwB, ← hq]; exact heap_new wr _
                        have b0 : wB.cell? ⟨q, 0, none⟩ = some (.int .u64 (T : Int)) := by rw [cell_of hqB]; rfl
                        have b1 : wB.cell? ⟨q, 1, none⟩ = some (.slice (some ⟨g, 0, none⟩) 1 1) := by rw [cell_of hqB]; rfl
                        have HBB : Hid (Below w10.heap.size w10 wB) := HBr.out.trans (hbB.mono HBr.out.size)
                        have HWB : Hid (EntsO wB base tB kB u23 W ∧ (∀ q, u23.ownBlock = some q → w10.heap.size ≤ q) ∧ wB.heap[g]? = some (boxJ tB kB x) ∧ OneAt wB x 2 (nn : Int) ByteArray.empty ∧ base ≤ g ∧ base ≤ x ∧ u23.ownBlock ≠ some g ∧ u23.ownBlock ≠ some x) := by
                          obtain ⟨e1, e2, e3, e4, e5, e6⟩ := HEn.out
                          refine ⟨HW.out.1.below hbB, HW.out.2, (hbB.block _ (lt_of e1)).trans e1, e2.below hbB, e3, e4, fun h => ?_, fun h => ?_⟩
                          · have := HW.out.2 _ h
                            omega
                          · have := HW.out.2 _ h
                            omega
                        rw [hwB, hq]
                        clear hwB hbB hqB HW HEn HBr hq p0 p1
                        (with_reducible refine (HUT.out _).mono ?_)
                        rintro e w12 ⟨rfl, rfl⟩
                        by_cases hle : Ep ≤ D
                        · have hleI : (Ep : Int) ≤ (D : Int) := by omega
                          go_wp2_with (at_builtin; go_must (refine wpList_entX rfl _ _ rfl base tB kB u23 W rfl ?q1 (Er.mk T nn g x) wB.heap.size 1 rfl ?q2 ?q3 ?q4 ?q5 ?_))
                          case q1 => exact HWB.out.1.below ((Below.refl _ _).alloc (Nat.le_refl _) _)
                          case q2 =>
                            have h := heap_new wB (.cells #[.int .u64 (T : Int), .slice (some ⟨g, 0, none⟩) 1 1] 42)
                            first
                              | exact h
                              | exact (Array.getElem?_eq_some_iff.1 h).2
                          case q3 =>
                            have hb := (Below.refl wB.heap.size wB).alloc (Nat.le_refl _) (.cells #[.int .u64 (T : Int), .slice (some ⟨g, 0, none⟩) 1 1] 42)
                            obtain ⟨_, _, p2, p3, p4, p5, p6, p7⟩ := HWB.out
                            exact ⟨(hb.block _ (lt_of p2)).trans p2, p3.below hb, p4, p5, p6, p7⟩
                          case q4 => have := HWl.out; omega
                          case q5 => have h1 := lt_of HWB.out.2.2.1; have h2 := HWB.out.2.2.2.2.1; simp; omega
                          intro v8 w8 HR8 HT8 HO8
                          have HB8 : Hid (Below w10.heap.size w10 w8) := by
                            have hb := HBB.out.trans (((Below.refl wB.heap.size wB).alloc (Nat.le_refl _) (.cells #[.int .u64 (T : Int), .slice (some ⟨g, 0, none⟩) 1 1] 42)).mono HBB.out.size)
                            exact hb.trans ((HT8.out.mono (S' := fun i => w10.heap.size ≤ i) fun i hi => HWB.out.2.1 i hi).toBelow hb.size)
                          have HO9 : Hid (∀ q, v8.ownBlock = some q → w10.heap.size ≤ q) := fun q h => by
                            rcases HO8.out with e | e
                            · rw [e] at h
                              exact HWB.out.2.1 q h
                            · rw [e] at h
                              have h2 := Option.some.inj h
                              have := HBB.out.size
                              omega
                          go_wp2_with fail
                          exact ⟨⟨j + 1, W ++ [Er.mk T nn g x], by omega, by go_num, ⟨HR8.out, HO9.out⟩, (by rw [List.map_append, HUn.out, if_pos hle]; rfl : (W ++ [Er.mk T nn g x]).map Er.tn = upTo D (A.take (j + 1))), HB8⟩, by simp [intOf]; omega⟩
                        · have hleI : ¬ (Ep : Int) ≤ (D : Int) := by omega
                          go_wp2_with fail
                          exact ⟨⟨j + 1, W, by omega, by go_num, ⟨HWB.out.1, HWB.out.2.1⟩, (by rw [HUn.out, if_neg hle] : W.map Er.tn = upTo D (A.take (j + 1))), HBB⟩, by simp [intOf]; omega⟩
                      · obtain rfl : j = k := by omega
                        have hlI : ¬ (j : Int) < (j : Int) := by omega
                        have HWt2 : W.map Er.tn = upTo D A := by
                          have := HWt.out
                          rw [HTa.out] at this
                          exact this
                        have HSe2 := HSe.out wr _ W HBr.out HW.out.1 HWt2
                        have w9' : IntKind.i64.wrap ((ep' : Int) + 1) = ((ep' + 1 : Nat) : Int) := by rw [wrap_small _ (by omega) (by omega)]; omega
                        have hDI : (D : Int) ≤ (ep' : Int) := by omega
                        have hDI2 : ¬ (ep' : Int) < (D : Int) := by omega
                        clear HRow
                        go_wp2_with (go_at_call 21; (with_reducible refine HSe2.mono ?_); rintro e w11 ⟨rfl, hb11⟩)
                        exact ⟨⟨ep' + 1, D, i + 1, Gn, c2, (by congr 1; omega), rfl, by go_num, by omega, by omega, by omega, by omega, by omega, HC3, HSt.out _ (HBr.out.trans (hb11.mono HBr.out.size))⟩, by simp [intOf]; omega⟩
            · have hk1I : ¬ (k : Int) < (nA : Int) := by omega
              clear hgo
              by_cases hDm : D = mk'
              · subst hDm
                go_wp2_with (first
                  | (go_at_call 18; (with_reducible refine (HCr.out _ HS.out).mono ?_); rintro e w9 ⟨rfl, S9⟩)
                  | (go_at_call 19; (with_reducible refine (HLd.out _ S9.out).mono ?_); rintro e w10 ⟨gv, rfl, R2, HG, HGt, S10⟩))
                as_aux_lemma =>
                  have HRow : Hid (∀ (u : World) (j : Nat), Below w10.heap.size w10 u → j < k → ∃ bl T n g x : Nat, av = some ⟨bl, 0, none⟩ ∧ k ≤ ac ∧ ac ≤ 9223372036854775807 ∧ u.cell? ⟨bl, j * 2, none⟩ = some (.int .u64 (T : Int)) ∧ u.cell? ⟨bl, j * 2 + 1, none⟩ = some (.slice (some ⟨g, 0, none⟩) 1 1) ∧ A[j]? = some (T, n) ∧ TidOk T ∧
                      (u.heap[g]? = some (boxJ tB kB x) ∧ OneAt u x 2 (n : Int) ByteArray.empty ∧ base ≤ g ∧ base ≤ x ∧ g < w10.heap.size ∧ x < w10.heap.size)) := fun u j hu hj => added_at S10.out.ents.1 HA.out.2.1 HA.out.2.2.1 HA.out.1 u hu j hj
                  have HSt : Hid (∀ u, Below w10.heap.size w10 u → Stand (DiskI d c2) w u []) := fun u hu => (S10.out.below (Sep.res (DiskI.res _ _) (EI.res _ _ _ _ _)) hu).sndOff
                  have HTa : Hid (A.take k = A) := by
                    have := HA.out.2.2.1
                    exact List.take_of_length_le (by omega)
                  have HSe : Hid (∀ (u : World) (v : Value) (W : List Er), Below w10.heap.size w10 u → EntsO u base tB kB v W → W.map Er.tn = upTo D A → Calls Tryz.prog 21 #[gv, v] u fun e w' => e = .returned (.bool true) ∧ Below u.heap.size u w') := fun u v W hu hW hWt =>
                    sameEntries_any tB kB gv v (sortE R2) W _ base u (HG.out.below hu) hW (by rw [HGt.out, hWt]) (by
                      have h1 := congrArg List.length HGt.out
                      have h2 : (upTo D A).length ≤ A.length := List.length_filter_le _ _
                      have h3 := HA.out.1.few
                      rw [List.length_map] at h1
                      omega)
                  have HU : Hid (∀ (T : Nat) u, TidOk T → Calls Tryz.prog 20 #[.int .u64 (T : Int)] u fun y w' => y = .returned (.tuple #[.int .i64 ((T / 8388608 : Nat) : Int), .int .i64 ((T : Int) / 8 % 1048576), .bool ((T : Int) % 2 != 0), .bool ((T : Int) / 2 % 2 * 2 != 0), .bool ((T : Int) / 4 % 2 * 4 != 0), .int .i64 0]) ∧ u = w') := fun T u hT => (unpack_yes (T : Int) u (by omega) (by have := hT.lt; omega) hT.may).mono fun _ _ h => ⟨h.1, h.2.symm⟩
                  have HAl : Hid (A.length = k ∧ k ≤ 30) := ⟨HA.out.2.2.1, hk30⟩
                  clear HG HGt S10 HA HLd HCr HS
                  go_loopw [23, 196] (fun vw vj wr => ∃ (j : Nat) (W : List Er), j ≤ k ∧ vj = .int .i64 j ∧ Hid (EntsO wr base tB kB vw W ∧ ∀ q, vw.ownBlock = some q → w10.heap.size ≤ q) ∧ Hid (W.map Er.tn = upTo D (A.take j)) ∧ Hid (Below w10.heap.size w10 wr)) (fun _ vj _ => k - (intOf vj).toNat)
                  case atStart => exact ⟨0, [], Nat.zero_le _, rfl, ⟨ents_nil, fun q h => by cases h⟩, (rfl : _ = _), Below.refl _ _⟩
                  case round =>
                    obtain ⟨j, W, hj, rfl, HW, HWt, HBr⟩ := hrel
                    by_cases hlt : j < k
                    · obtain ⟨bl, T, nn, g, x, rfl, hc1, hc2, p0, p1, hAj, hT, hent⟩ := HRow.out wr j HBr.out hlt
                      have hlI : (j : Int) < (k : Int) := by omega
                      have HUT : Hid (∀ u, Calls Tryz.prog 20 #[.int .u64 (T : Int)] u fun y w' => y = .returned (.tuple #[.int .i64 ((T / 8388608 : Nat) : Int), .int .i64 ((T : Int) / 8 % 1048576), .bool ((T : Int) % 2 != 0), .bool ((T : Int) / 2 % 2 * 2 != 0), .bool ((T : Int) / 4 % 2 * 4 != 0), .int .i64 0]) ∧ u = w') := fun u => HU.out T u hT
                      have hje : j < A.length := by have := HAl.out.1; omega
                      have hun := upTo_next (D := D) hje
                      have hAe : A[j] = (T, nn) := by
                        have := hAj
                        rw [List.getElem?_eq_getElem hje] at this
                        exact Option.some.inj this
                      rw [hAe, ← HWt.out] at hun
                      simp only at hun
                      have HEn : Hid (wr.heap[g]? = some (boxJ tB kB x) ∧ OneAt wr x 2 (nn : Int) ByteArray.empty ∧ base ≤ g ∧ base ≤ x ∧ g < w10.heap.size ∧ x < w10.heap.size) := hent
                      have HWl : Hid (W.length ≤ 1000) := by
                        have h1 := congrArg List.length HWt.out
                        rw [List.length_map] at h1
                        have h2 : (upTo D (A.take j)).length ≤ (A.take j).length := List.length_filter_le _ _
                        rw [List.length_take] at h2
                        have := HAl.out
                        show W.length ≤ 1000
                        omega
                      obtain ⟨Ep, hEp⟩ : ∃ q, T / 8388608 = q := ⟨_, rfl⟩
                      rw [hEp] at HUT hun
                      have HUn : Hid (upTo D (A.take (j + 1)) = if Ep ≤ D then W.map Er.tn ++ [(T, nn)] else W.map Er.tn) := hun
                      clear hun hAe hAj hje hEp hT hent HWt
                      go_wp2_with fail
                      obtain ⟨wB, hwB⟩ : ∃ u, wr.alloc (.cells #[.int .u64 (T : Int), .slice (some ⟨g, 0, none⟩) 1 1] 42) = u := ⟨_, rfl⟩
                      obtain ⟨q, hq⟩ : ∃ q, wr.heap.size = q := ⟨_, rfl⟩
                      have hbB : Below wr.heap.size wr wB := by rw [← hwB]; exact (Below.refl _ _).alloc (Nat.le_refl _) _
                      have hqB : wB.heap[q]? = some (.cells #[.int .u64 (T : Int), .slice (some ⟨g, 0, none⟩) 1 1] 42 (0, 0)) := by rw [← hwB, ← hq]; exact heap_new wr _
                      have b0 : wB.cell? ⟨q, 0, none⟩ = some (.int .u64 (T : Int)) := by rw [cell_of hqB]; rfl
                      have b1 : wB.cell? ⟨q, 1, none⟩ = some (.slice (some ⟨g, 0, none⟩) 1 1) := by rw [cell_of hqB]; rfl
                      have HBB : Hid (Below w10.heap.size w10 wB) := HBr.out.trans (hbB.mono HBr.out.size)
                      have HWB : Hid (EntsO wB base tB kB u23 W ∧ (∀ q, u23.ownBlock = some q → w10.heap.size ≤ q) ∧ wB.heap[g]? = some (boxJ tB kB x) ∧ OneAt wB x 2 (nn : Int) ByteArray.empty ∧ base ≤ g ∧ base ≤ x ∧ u23.ownBlock ≠ some g ∧ u23.ownBlock ≠ some x) := by
                        obtain ⟨e1, e2, e3, e4, e5, e6⟩ := HEn.out
                        refine ⟨HW.out.1.below hbB, HW.out.2, (hbB.block _ (lt_of e1)).trans e1, e2.below hbB, e3, e4, fun h => ?_, fun h => ?_⟩
                        · have := HW.out.2 _ h
                          omega
                        · have := HW.out.2 _ h
                          omega
                      rw [hwB, hq]
                      clear hwB hbB hqB HW HEn HBr hq p0 p1
                      (with_reducible refine (HUT.out _).mono ?_)
                      rintro e w12 ⟨rfl, rfl⟩
                      by_cases hle : Ep ≤ D
                      · have hleI : (Ep : Int) ≤ (D : Int) := by omega
                        go_wp2_with (at_builtin; go_must (refine wpList_entX rfl _ _ rfl base tB kB u23 W rfl ?q1 (Er.mk T nn g x) wB.heap.size 1 rfl ?q2 ?q3 ?q4 ?q5 ?_))
                        case q1 => exact HWB.out.1.below ((Below.refl _ _).alloc (Nat.le_refl _) _)
                        case q2 =>
                          have h := heap_new wB (.cells #[.int .u64 (T : Int), .slice (some ⟨g, 0, none⟩) 1 1] 42)
                          first
                            | exact h
                            | exact (Array.getElem?_eq_some_iff.1 h).2
                        case q3 =>
                          have hb := (Below.refl wB.heap.size wB).alloc (Nat.le_refl _) (.cells #[.int .u64 (T : Int), .slice (some ⟨g, 0, none⟩) 1 1] 42)
                          obtain ⟨_, _, p2, p3, p4, p5, p6, p7⟩ := HWB.out
                          exact ⟨(hb.block _ (lt_of p2)).trans p2, p3.below hb, p4, p5, p6, p7⟩
                        case q4 => have := HWl.out; omega
                        case q5 => have h1 := lt_of HWB.out.2.2.1; have h2 := HWB.out.2.2.2.2.1; simp; omega
                        intro v8 w8 HR8 HT8 HO8
                        have HB8 : Hid (Below w10.heap.size w10 w8) := by
                          have hb := HBB.out.trans (((Below.refl wB.heap.size wB).alloc (Nat.le_refl _) (.cells #[.int .u64 (T : Int), .slice (some ⟨g, 0, none⟩) 1 1] 42)).mono HBB.out.size)
                          exact hb.trans ((HT8.out.mono (S' := fun i => w10.heap.size ≤ i) fun i hi => HWB.out.2.1 i hi).toBelow hb.size)
                        have HO9 : Hid (∀ q, v8.ownBlock = some q → w10.heap.size ≤ q) := fun q h => by
                          rcases HO8.out with e | e
                          · rw [e] at h
                            exact HWB.out.2.1 q h
                          · rw [e] at h
                            have h2 := Option.some.inj h
                            have := HBB.out.size
                            omega
                        go_wp2_with fail
                        exact ⟨⟨j + 1, W ++ [Er.mk T nn g x], by omega, by go_num, ⟨HR8.out, HO9.out⟩, (by rw [List.map_append, HUn.out, if_pos hle]; rfl : (W ++ [Er.mk T nn g x]).map Er.tn = upTo D (A.take (j + 1))), HB8⟩, by simp [intOf]; omega⟩
                      · have hleI : ¬ (Ep : Int) ≤ (D : Int) := by omega
                        go_wp2_with fail
                        exact ⟨⟨j + 1, W, by omega, by go_num, ⟨HWB.out.1, HWB.out.2.1⟩, (by rw [HUn.out, if_neg hle] : W.map Er.tn = upTo D (A.take (j + 1))), HBB⟩, by simp [intOf]; omega⟩
                    · obtain rfl : j = k := by omega
                      have hlI : ¬ (j : Int) < (j : Int) := by omega
                      have HWt2 : W.map Er.tn = upTo D A := by
                        have := HWt.out
                        rw [HTa.out] at this
                        exact this
                      have HSe2 := HSe.out wr _ W HBr.out HW.out.1 HWt2
                      have w9' : IntKind.i64.wrap ((ep' : Int) + 1) = ((ep' + 1 : Nat) : Int) := by rw [wrap_small _ (by omega) (by omega)]; omega
                      have hDI : (D : Int) ≤ (ep' : Int) := by omega
                      have hDI2 : ¬ (ep' : Int) < (D : Int) := by omega
                      clear HRow
                      go_wp2_with (go_at_call 21; (with_reducible refine HSe2.mono ?_); rintro e w11 ⟨rfl, hb11⟩)
                      exact ⟨⟨ep' + 1, D, i + 1, Gn, c2, (by congr 1; omega), rfl, by go_num, by omega, by omega, by omega, by omega, by omega, HC3, HSt.out _ (HBr.out.trans (hb11.mono HBr.out.size))⟩, by simp [intOf]; omega⟩
              · have hDn := hD2.resolve_left hDm
                subst hDn
                have m1 : ((D : Int) != (mk' : Int)) = true := by simp; omega
                go_wp2_with (first
                  | (go_at_call 18; (with_reducible refine (HCr.out _ HS.out).mono ?_); rintro e w9 ⟨rfl, S9⟩)
                  | (go_at_call 19; (with_reducible refine (HLd.out _ S9.out).mono ?_); rintro e w10 ⟨gv, rfl, R2, HG, HGt, S10⟩))
                as_aux_lemma =>
                  have HRow : Hid (∀ (u : World) (j : Nat), Below w10.heap.size w10 u → j < k → ∃ bl T n g x : Nat, av = some ⟨bl, 0, none⟩ ∧ k ≤ ac ∧ ac ≤ 9223372036854775807 ∧ u.cell? ⟨bl, j * 2, none⟩ = some (.int .u64 (T : Int)) ∧ u.cell? ⟨bl, j * 2 + 1, none⟩ = some (.slice (some ⟨g, 0, none⟩) 1 1) ∧ A[j]? = some (T, n) ∧ TidOk T ∧
                      (u.heap[g]? = some (boxJ tB kB x) ∧ OneAt u x 2 (n : Int) ByteArray.empty ∧ base ≤ g ∧ base ≤ x ∧ g < w10.heap.size ∧ x < w10.heap.size)) := fun u j hu hj => added_at S10.out.ents.1 HA.out.2.1 HA.out.2.2.1 HA.out.1 u hu j hj
                  have HSt : Hid (∀ u, Below w10.heap.size w10 u → Stand (DiskI d c2) w u []) := fun u hu => (S10.out.below (Sep.res (DiskI.res _ _) (EI.res _ _ _ _ _)) hu).sndOff
                  have HTa : Hid (A.take k = A) := by
                    have := HA.out.2.2.1
                    exact List.take_of_length_le (by omega)
                  have HSe : Hid (∀ (u : World) (v : Value) (W : List Er), Below w10.heap.size w10 u → EntsO u base tB kB v W → W.map Er.tn = upTo D A → Calls Tryz.prog 21 #[gv, v] u fun e w' => e = .returned (.bool true) ∧ Below u.heap.size u w') := fun u v W hu hW hWt =>
                    sameEntries_any tB kB gv v (sortE R2) W _ base u (HG.out.below hu) hW (by rw [HGt.out, hWt]) (by
                      have h1 := congrArg List.length HGt.out
                      have h2 : (upTo D A).length ≤ A.length := List.length_filter_le _ _
                      have h3 := HA.out.1.few
                      rw [List.length_map] at h1
                      omega)
                  have HU : Hid (∀ (T : Nat) u, TidOk T → Calls Tryz.prog 20 #[.int .u64 (T : Int)] u fun y w' => y = .returned (.tuple #[.int .i64 ((T / 8388608 : Nat) : Int), .int .i64 ((T : Int) / 8 % 1048576), .bool ((T : Int) % 2 != 0), .bool ((T : Int) / 2 % 2 * 2 != 0), .bool ((T : Int) / 4 % 2 * 4 != 0), .int .i64 0]) ∧ u = w') := fun T u hT => (unpack_yes (T : Int) u (by omega) (by have := hT.lt; omega) hT.may).mono fun _ _ h => ⟨h.1, h.2.symm⟩
                  have HAl : Hid (A.length = k ∧ k ≤ 30) := ⟨HA.out.2.2.1, hk30⟩
                  clear HG HGt S10 HA HLd HCr HS
                  go_loopw [23, 196] (fun vw vj wr => ∃ (j : Nat) (W : List Er), j ≤ k ∧ vj = .int .i64 j ∧ Hid (EntsO wr base tB kB vw W ∧ ∀ q, vw.ownBlock = some q → w10.heap.size ≤ q) ∧ Hid (W.map Er.tn = upTo D (A.take j)) ∧ Hid (Below w10.heap.size w10 wr)) (fun _ vj _ => k - (intOf vj).toNat)
                  case atStart => exact ⟨0, [], Nat.zero_le _, rfl, ⟨ents_nil, fun q h => by cases h⟩, (rfl : _ = _), Below.refl _ _⟩
                  case round =>
                    obtain ⟨j, W, hj, rfl, HW, HWt, HBr⟩ := hrel
                    by_cases hlt : j < k
                    · obtain ⟨bl, T, nn, g, x, rfl, hc1, hc2, p0, p1, hAj, hT, hent⟩ := HRow.out wr j HBr.out hlt
                      have hlI : (j : Int) < (k : Int) := by omega
                      have HUT : Hid (∀ u, Calls Tryz.prog 20 #[.int .u64 (T : Int)] u fun y w' => y = .returned (.tuple #[.int .i64 ((T / 8388608 : Nat) : Int), .int .i64 ((T : Int) / 8 % 1048576), .bool ((T : Int) % 2 != 0), .bool ((T : Int) / 2 % 2 * 2 != 0), .bool ((T : Int) / 4 % 2 * 4 != 0), .int .i64 0]) ∧ u = w') := fun u => HU.out T u hT
                      have hje : j < A.length := by have := HAl.out.1; omega
                      have hun := upTo_next (D := D) hje
                      have hAe : A[j] = (T, nn) := by
                        have := hAj
                        rw [List.getElem?_eq_getElem hje] at this
                        exact Option.some.inj this
                      rw [hAe, ← HWt.out] at hun
                      simp only at hun
                      have HEn : Hid (wr.heap[g]? = some (boxJ tB kB x) ∧ OneAt wr x 2 (nn : Int) ByteArray.empty ∧ base ≤ g ∧ base ≤ x ∧ g < w10.heap.size ∧ x < w10.heap.size) := hent
                      have HWl : Hid (W.length ≤ 1000) := by
                        have h1 := congrArg List.length HWt.out
                        rw [List.length_map] at h1
                        have h2 : (upTo D (A.take j)).length ≤ (A.take j).length := List.length_filter_le _ _
                        rw [List.length_take] at h2
                        have := HAl.out
                        show W.length ≤ 1000
                        omega
                      obtain ⟨Ep, hEp⟩ : ∃ q, T / 8388608 = q := ⟨_, rfl⟩
                      rw [hEp] at HUT hun
                      have HUn : Hid (upTo D (A.take (j + 1)) = if Ep ≤ D then W.map Er.tn ++ [(T, nn)] else W.map Er.tn) := hun
                      clear hun hAe hAj hje hEp hT hent HWt
                      go_wp2_with fail
                      obtain ⟨wB, hwB⟩ : ∃ u, wr.alloc (.cells #[.int .u64 (T : Int), .slice (some ⟨g, 0, none⟩) 1 1] 42) = u := ⟨_, rfl⟩
                      obtain ⟨q, hq⟩ : ∃ q, wr.heap.size = q := ⟨_, rfl⟩
                      have hbB : Below wr.heap.size wr wB := by rw [← hwB]; exact (Below.refl _ _).alloc (Nat.le_refl _) _
                      have hqB : wB.heap[q]? = some (.cells #[.int .u64 (T : Int), .slice (some ⟨g, 0, none⟩) 1 1] 42 (0, 0)) := by rw [← hwB, ← hq]; exact heap_new wr _
                      have b0 : wB.cell? ⟨q, 0, none⟩ = some (.int .u64 (T : Int)) := by rw [cell_of hqB]; rfl
                      have b1 : wB.cell? ⟨q, 1, none⟩ = some (.slice (some ⟨g, 0, none⟩) 1 1) := by rw [cell_of hqB]; rfl
                      have HBB : Hid (Below w10.heap.size w10 wB) := HBr.out.trans (hbB.mono HBr.out.size)
                      have HWB : Hid (EntsO wB base tB kB u23 W ∧ (∀ q, u23.ownBlock = some q → w10.heap.size ≤ q) ∧ wB.heap[g]? = some (boxJ tB kB x) ∧ OneAt wB x 2 (nn : Int) ByteArray.empty ∧ base ≤ g ∧ base ≤ x ∧ u23.ownBlock ≠ some g ∧ u23.ownBlock ≠ some x) := by
                        obtain ⟨e1, e2, e3, e4, e5, e6⟩ := HEn.out
                        refine ⟨HW.out.1.below hbB, HW.out.2, (hbB.block _ (lt_of e1)).trans e1, e2.below hbB, e3, e4, fun h => ?_, fun h => ?_⟩
                        · have := HW.out.2 _ h
                          omega
                        · have := HW.out.2 _ h
                          omega
                      rw [hwB, hq]
                      clear hwB hbB hqB HW HEn HBr hq p0 p1
                      (with_reducible refine (HUT.out _).mono ?_)
                      rintro e w12 ⟨rfl, rfl⟩
                      by_cases hle : Ep ≤ D
                      · have hleI : (Ep : Int) ≤ (D : Int) := by omega
                        go_wp2_with (at_builtin; go_must (refine wpList_entX rfl _ _ rfl base tB kB u23 W rfl ?q1 (Er.mk T nn g x) wB.heap.size 1 rfl ?q2 ?q3 ?q4 ?q5 ?_))
                        case q1 => exact HWB.out.1.below ((Below.refl _ _).alloc (Nat.le_refl _) _)
                        case q2 =>
                          have h := heap_new wB (.cells #[.int .u64 (T : Int), .slice (some ⟨g, 0, none⟩) 1 1] 42)
                          first
                            | exact h
                            | exact (Array.getElem?_eq_some_iff.1 h).2
                        case q3 =>
                          have hb := (Below.refl wB.heap.size wB).alloc (Nat.le_refl _) (.cells #[.int .u64 (T : Int), .slice (some ⟨g, 0, none⟩) 1 1] 42)
                          obtain ⟨_, _, p2, p3, p4, p5, p6, p7⟩ := HWB.out
                          exact ⟨(hb.block _ (lt_of p2)).trans p2, p3.below hb, p4, p5, p6, p7⟩
                        case q4 => have := HWl.out; omega
                        case q5 => have h1 := lt_of HWB.out.2.2.1; have h2 := HWB.out.2.2.2.2.1; simp; omega
                        intro v8 w8 HR8 HT8 HO8
                        have HB8 : Hid (Below w10.heap.size w10 w8) := by
                          have hb := HBB.out.trans (((Below.refl wB.heap.size wB).alloc (Nat.le_refl _) (.cells #[.int .u64 (T : Int), .slice (some ⟨g, 0, none⟩) 1 1] 42)).mono HBB.out.size)
                          exact hb.trans ((HT8.out.mono (S' := fun i => w10.heap.size ≤ i) fun i hi => HWB.out.2.1 i hi).toBelow hb.size)
                        have HO9 : Hid (∀ q, v8.ownBlock = some q → w10.heap.size ≤ q) := fun q h => by
                          rcases HO8.out with e | e
                          · rw [e] at h
                            exact HWB.out.2.1 q h
                          · rw [e] at h
                            have h2 := Option.some.inj h
                            have := HBB.out.size
                            omega
                        go_wp2_with fail
                        exact ⟨⟨j + 1, W ++ [Er.mk T nn g x], by omega, by go_num, ⟨HR8.out, HO9.out⟩, (by rw [List.map_append, HUn.out, if_pos hle]; rfl : (W ++ [Er.mk T nn g x]).map Er.tn = upTo D (A.take (j + 1))), HB8⟩, by simp [intOf]; omega⟩
                      · have hleI : ¬ (Ep : Int) ≤ (D : Int) := by omega
                        go_wp2_with fail
                        exact ⟨⟨j + 1, W, by omega, by go_num, ⟨HWB.out.1, HWB.out.2.1⟩, (by rw [HUn.out, if_neg hle] : W.map Er.tn = upTo D (A.take (j + 1))), HBB⟩, by simp [intOf]; omega⟩
                    · obtain rfl : j = k := by omega
                      have hlI : ¬ (j : Int) < (j : Int) := by omega
                      have HWt2 : W.map Er.tn = upTo D A := by
                        have := HWt.out
                        rw [HTa.out] at this
                        exact this
                      have HSe2 := HSe.out wr _ W HBr.out HW.out.1 HWt2
                      have w9' : IntKind.i64.wrap ((ep' : Int) + 1) = ((ep' + 1 : Nat) : Int) := by rw [wrap_small _ (by omega) (by omega)]; omega
                      have hDI : (D : Int) ≤ (ep' : Int) := by omega
                      have hDI2 : ¬ (ep' : Int) < (D : Int) := by omega
                      clear HRow
                      go_wp2_with (go_at_call 21; (with_reducible refine HSe2.mono ?_); rintro e w11 ⟨rfl, hb11⟩)
                      exact ⟨⟨ep' + 1, D, i + 1, Gn, c2, (by congr 1; omega), rfl, by go_num, by omega, by omega, by omega, by omega, by omega, HC3, HSt.out _ (HBr.out.trans (hb11.mono HBr.out.size))⟩, by simp [intOf]; omega⟩
    · by_cases q1 : i < n
      · have q2 : ¬ i < 12 := fun h => hlt ⟨q1, h⟩
        have q3 : (i : Int) < (n : Int) := by omega
        have q4 : ¬ (i : Int) < 12 := by omega
        go_wp2_with fail
        go_returns
        exact ⟨rfl, HS.out.base⟩
      · have q3 : ¬ (i : Int) < (n : Int) := by omega
        go_wp2_with fail
        go_returns
        exact ⟨rfl, HS.out.base⟩
end Go.Proofs.YtigegdelhpdlhaaGreatDoor

/- How layer 18's laws read their arguments, and what is laid in the package-level variables. -/
namespace Go.Proofs.YtigegdelhpdlhaaGreatDoor
open Go.ChangeShapes Go.WideShapes Go.ChangeAt Go.RowKit Go.Joins

theorem own : ownKnob Tryz.prog.godebug = none := by kernel_rfl
theorem laidOut : laidOutB Tryz.prog = true := by kernel_rfl

theorem draws_of {H : Type} {enc : TypeId × Value → H} {W : World} {fuel : Nat} {v : Value} {x : DataW H × List MemPlace} (hf : DataW.trod enc Tryz.prog W 0 (fun _ => true) true fuel 26 [v] = some x) :
    ∃ a ds c, v = .slice a ds.length c ∧ DrawsAt W (fun i => W.heap.size ≤ i) (.slice a ds.length c) ds := by
  rcases open_ints Tryz.underlying26 Tryz.underlying3 (by kernel_rfl) hf with ⟨hcs, _⟩ | ⟨a, l, c, zs, hcs, _, hl, hm, hz, _, hcell, hwz⟩
  · obtain rfl : v = .slice none 0 0 := by simpa using hcs
    exact ⟨none, [], 0, rfl, none, 0, rfl, Nat.le_refl _, Nat.zero_le _, fun h => absurd rfl h, by simp⟩
  · have hz : zs.length = c := by simpa using hz
    have hlen : (zs.take l).length = l := by simp; omega
    obtain rfl : v = .slice (some a) l c := by simpa using hcs
    refine ⟨some a, zs.take l, c, by rw [hlen], some a, c, rfl, by rw [hlen]; exact hl, hm, fun hne => ?_, fun y hy => (bounds_i64 (hwz y (List.mem_of_mem_take hy))).2⟩
    have hpos : 0 < l := by
      rw [← hlen]
      exact List.length_pos_iff.2 hne
    obtain ⟨b, off, rfl, hc⟩ := ints_at hcell (by omega)
    have hb : b < W.heap.size := by
      have h0 := hc 0 (by omega)
      unfold World.cell? at h0
      cases hh : W.heap[b]? with
      | none => simp [hh] at h0
      | some o => exact lt_of hh
    refine ⟨b, off, rfl, hb, by omega, fun i hi => ?_⟩
    rw [hlen] at hi
    rw [hc i (by omega)]
    simp [List.getD, hi]

theorem ints_draws {w : World} {v : Value} {L : List Int} {S : Nat → Prop} (h : DrawsAt w S v L) : SliceAt w v 1 (fun y : Int => [Value.int .i64 y]) L := by
  obtain ⟨a, c, rfl, h1, h2, h3, _⟩ := h
  refine ⟨a, c, rfl, h1, h2, fun hr => ?_⟩
  obtain ⟨b, off, e1, e2, _, e4⟩ := h3 hr
  refine ⟨b, off, e1, e2, fun i hi j u hu => ?_⟩
  match j, hu with
  | 0, hu =>
    have h0 := e4 i hi
    have h1 : Value.int .i64 L[i] = u := by simpa using hu
    rw [← h1, Nat.mul_one, Nat.add_zero, h0]
    simp [List.getD, hi]
theorem cellsGo : Tryz.prog.cellsOf 28 = 3 := by kernel_rfl
theorem cellsInt18 : Tryz.prog.cellsOf 3 = 1 := by kernel_rfl
theorem cellsInts18 : Tryz.prog.cellsOf 26 = 1 := by kernel_rfl
theorem trod_struct3 {H : Type} {enc : TypeId × Value → H} {P : Program} {w : World} {base : Nat} {spare : Nat → Bool} {held : Bool} {t : TypeId} {f0 f1 f2 : Field} {fuel : Nat} {cs : List Value} {x : DataW H × List MemPlace} (ht : P.underlying t = some (.struct #[f0, f1, f2])) (h : DataW.trod enc P w base spare held fuel t cs = some x) :
    ∃ y0 y1 y2 n, DataW.trod enc P w base spare held n f0.type ((cs.drop f0.offset).take (P.cellsOf f0.type)) = some y0 ∧ DataW.trod enc P w base spare held n f1.type ((cs.drop f1.offset).take (P.cellsOf f1.type)) = some y1 ∧
      DataW.trod enc P w base spare held n f2.type ((cs.drop f2.offset).take (P.cellsOf f2.type)) = some y2 := by
  obtain ⟨xs, n, _, rfl, hl, hlen, hf⟩ := DataW.trod_struct ht h
  match xs, hlen with
  | [y0, y1, y2], _ => exact ⟨y0, y1, y2, n, by simpa using hf 0 f0 rfl, by simpa using hf 1 f1 rfl, by simpa using hf 2 f2 rfl⟩
set_option maxRecDepth 100000 in
theorem gos_of {H : Type} {ec : TypeId × Value → H} {W : World} {fuel : Nat} {v : Value} {x : DataW H × List MemPlace} (hf : DataW.trod ec Tryz.prog W 0 (fun _ => true) true fuel 22 [v] = some x) (hw : ∀ n ∈ x.1.weights Tryz.prog 22, n ≤ reachBytes) :
    ∃ L : List GoV, SliceAt W v 3 enG L ∧ ∀ x ∈ L, GoOk W x := by
  refine open_rows Tryz.underlying22 cellsGo (by omega) hf hw enG _ (fun m cs y hlen ht _ => ?_)
  obtain ⟨y0, y1, y2, m, h0, h1, h2⟩ := trod_struct3 Tryz.underlying28 ht
  match cs, hlen with
  | [v0, v1, v2], _ =>
    simp only [cellsInt18, cellsInts18, List.drop_zero, List.drop_succ_cons, List.take_succ_cons, List.take_zero] at h0 h1 h2
    obtain ⟨a0, L0, c0, e0, d0⟩ := draws_of h0
    obtain ⟨k, e1, _, _⟩ := DataW.trod_int Tryz.underlying3 h1
    obtain ⟨a2, L2, c2, e2, d2⟩ := draws_of h2
    simp only [List.cons.injEq, and_true] at e1
    exact ⟨⟨v0, L0, k, v2, L2⟩, by show [v0, _, v2] = _; rw [e1], ⟨e0 ▸ ints_draws d0, e2 ▸ d2⟩⟩

end Go.Proofs.YtigegdelhpdlhaaGreatDoor
