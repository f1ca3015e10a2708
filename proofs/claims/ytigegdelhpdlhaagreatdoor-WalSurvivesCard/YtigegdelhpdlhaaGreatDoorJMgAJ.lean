import Derived.Test.YtigegdelhpdlhaaGreatDoorJTrimJ
import Derived.Shelf.SlSortCmp.KitK
import Derived.Sort.WalkB2
import Derived.Sort.WalkB12
import Derived.Deep.LoopGhost
/- Layer 18: two stretches of a row of entries change places: the library's swapRange. -/
namespace Go.Proofs.YtigegdelhpdlhaaGreatDoor
open Go.RowKit QP Go.Sort Go.Shelf Go.Lib

/-- what the library's functions want of a program: said of any program, so that the walk keeps an entry's cells together -/
structure PJ (P : Program) (k : Nat) : Prop where
  mixed : P.follows .mixedOrders = true
  t3 : P.underlying 3 = some (TypeDesc.int IntKind.i64)
  a3 : ∀ w, (isAgg 3).run P w = .ok false w
  z3 : ∀ w, (Go.sizeOf 3).run P w = .ok 1 w
  v3 : ∀ w, (zeroValue 3).run P w = .ok (Value.int IntKind.i64 0) w
  t38 : P.underlying 38 = some (TypeDesc.slice 42)
  a38 : ∀ w, (isAgg 38).run P w = .ok false w
  z38 : ∀ w, (Go.sizeOf 38).run P w = .ok 1 w
  v38 : ∀ w, (zeroValue 38).run P w = .ok (Value.slice none 0 0) w
  aE : ∀ w, (isAgg 42).run P w = .ok true w
  zE : ∀ w, (Go.sizeOf 42).run P w = .ok k w
theorem pj : PJ Tryz.prog 2 := ⟨by kernel_rfl, Tryz.underlying3, Tryz.isAgg3, Tryz.sizeOf3, Tryz.zeroValue3, Tryz.underlying38, Tryz.isAgg38, Tryz.sizeOf38, Tryz.zeroValue38, Tryz.isAgg42, Tryz.sizeOf42⟩
/-- a world in which the row holds L: as far as a sort comes from w0 -/
abbrev SWJ (w0 : World) (blk : Nat) (L : List Er) (W : World) : Prop := SWK enE 2 w0 blk 0 L.toArray W
abbrev RowJ (w0 : World) (blk : Nat) (L0 : List Er) : Prop := Go.Proofs.RowK enE 2 w0 blk 0 L0.toArray
theorem enE_one : ∀ x : Er, ∀ v ∈ enE x, v.oneCell' = true := fun x v hv => by
  simp [enE] at hv
  rcases hv with rfl | rfl <;> rfl
theorem RowE.row {w : World} {blk cap : Nat} {L : List Er} (h : RowE w blk cap L) : RowJ w blk L :=
  ⟨enE_len, enE_one, h.holds, by obtain ⟨cur, h1, _⟩ := h; exact lt_of h1⟩
theorem getJ (L : List Er) (i : Nat) : L.toArray[i]! = gE L i := by
  rw [List.getElem!_toArray]
  unfold gE
  rw [List.getD, getElem!_def]
  cases L[i]? <;> rfl
theorem swpJ (L : List Er) (i j : Nat) : swp L.toArray i j = (swE L i j).toArray := by
  unfold swp swE
  rw [getJ, getJ]
  simp
section
variable {w0 W : World} {blk k : Nat} {L L0 : List Er} {enc : Er → List Value}
theorem swJ_swapped (h : SWK enc k w0 blk 0 L.toArray W) (R : Go.Proofs.RowK enc k w0 blk 0 L0.toArray) (i j : Nat) (hi : i < L.length) (hj : j < L.length) : SWK enc k w0 blk 0 (swE L i j).toArray ((W.drew.setCells blk (i * k) (enc (gE L j))).setCells blk (j * k) (enc (gE L i))) := by
  have := SWK.swapped h R i j (by simpa using hi) (by simpa using hj)
  rw [getJ, getJ, swpJ, Nat.zero_add, Nat.zero_add] at this
  exact this
theorem swJ_ld1 (h : SWK enc k w0 blk 0 L.toArray W) (R : Go.Proofs.RowK enc k w0 blk 0 L0.toArray) (hs : L.length = L0.length) (P : Program) (i : Nat) (hi : i < L.length) : Sem.run P (loadCellsFrom ⟨blk, i * k, none⟩ 0 k #[]) W.drew = .ok (enc (gE L i)).toArray W.drew := by
  have := SWK.ld1 h R (by simpa using hs) P i (by simpa using hi)
  rw [getJ, Nat.zero_add] at this
  exact this
theorem swJ_st1 (h : SWK enc k w0 blk 0 L.toArray W) (R : Go.Proofs.RowK enc k w0 blk 0 L0.toArray) (hs : L.length = L0.length) (P : Program) (i : Nat) (hi : i < L.length) (y : Er) : Sem.run P (storeCells ⟨blk, i * k, none⟩ (enc y) 0) W.drew = .ok () (W.drew.setCells blk (i * k) (enc y)) := by
  have := SWK.st1 h R (by simpa using hs) P i (by simpa using hi) y
  rw [Nat.zero_add] at this
  exact this
theorem swJ_st2 (h : SWK enc k w0 blk 0 L.toArray W) (R : Go.Proofs.RowK enc k w0 blk 0 L0.toArray) (hs : L.length = L0.length) (P : Program) (i j : Nat) (hi : i < L.length) (hj : j < L.length) (y x : Er) : Sem.run P (storeCells ⟨blk, j * k, none⟩ (enc x) 0) (W.drew.setCells blk (i * k) (enc y)) = .ok () ((W.drew.setCells blk (i * k) (enc y)).setCells blk (j * k) (enc x)) := by
  have := SWK.st2 h R (by simpa using hs) P i j (by simpa using hi) (by simpa using hj) y x
  rw [Nat.zero_add, Nat.zero_add] at this
  exact this
end

set_option maxRecDepth 1000000 in
set_option maxHeartbeats 4000000 in
theorem jswr_gen {P : Program} {k : Nat} (Q : PJ P k) (FG : P.funcs[176]? = some Tryz.f176) (enc : Er → List Value) (gf : Nat) (w0 : World) (blk cap a b n : Nat) (L0 L : List Er) (W : World) (R : Go.Proofs.RowK enc k w0 blk 0 L0.toArray) (S : SWK enc k w0 blk 0 L.toArray W) (hs : L.length = L0.length) (hab : a + n ≤ b) (hb : b + n ≤ L.length) (hL : L.length ≤ 1000) :
    Calls P 176 #[.slice (some ⟨blk, 0, none⟩) L.length cap, .int .i64 (a : Int), .int .i64 (b : Int), .int .i64 (n : Int), .func (.func gf) #[] #[]] W fun e w' => e = .returned (.tuple #[]) ∧ SWK enc k w0 blk 0 (swN L a b n).toArray w' := by
  have mixed := Q.mixed; have t3 := Q.t3; have a3 := Q.a3; have z3 := Q.z3; have v3 := Q.v3; have t38 := Q.t38; have a38 := Q.a38; have z38 := Q.z38; have v38 := Q.v38; have aE := Q.aE; have zE := Q.zE
  have u38 := run_underlying Q.t38
  have S0 : Hid (SWK enc k w0 blk 0 L.toArray W) := S
  obtain ⟨N, hN⟩ : ∃ N, L.length = N := ⟨_, rfl⟩
  have HN : Hid (L.length = N) := hN
  rw [hN] at hb hL ⊢
  clear S hN
  go_enter FG, Tryz.ntmps176
  go_wp2_with fail
  go_loopw [10] (fun vi wr => ∃ i : Nat, vi = .int .i64 i ∧ i ≤ n ∧ Hid (SWK enc k w0 blk 0 (swN L a b i).toArray wr)) (fun vi _ => n - (intOf vi).toNat)
  case atStart => exact ⟨0, rfl, Nat.zero_le _, S0⟩
  case round =>
    clear S0
    obtain ⟨i, rfl, hin, S1⟩ := hrel
    by_cases hlt : i < n
    · have hltz : (i : Int) < (n : Int) := by omega
      go_wp2_with fail
      obtain ⟨x, hx⟩ : ∃ x, a + i = x := ⟨_, rfl⟩
      obtain ⟨y, hy⟩ : ∃ y, b + i = y := ⟨_, rfl⟩
      have hxy : x < y ∧ y < N := by omega
      obtain ⟨M, hM⟩ : ∃ M, swN L a b i = M := ⟨_, rfl⟩
      have hMl : M.length = N := by rw [← hM, swN_len, HN.out]
      have hMs : M.length = L0.length := by rw [hMl, ← HN.out, hs]
      have hS1 : SWK enc k w0 blk 0 M.toArray wr := by rw [← hM]; exact S1.out
      have rx : IntKind.i64.wrap ((a : Int) + (i : Int)) = (x : Int) := by rw [IntKind.wrap_i64]; omega
      have ry : IntKind.i64.wrap ((b : Int) + (i : Int)) = (y : Int) := by rw [IntKind.wrap_i64]; omega
      have ex : ((x : Int)).toNat = x := by omega
      have ey : ((y : Int)).toNat = y := by omega
      have bx : (x : Int) < (N : Int) := by omega
      have by' : (y : Int) < (N : Int) := by omega
      have S2 : Hid (SWK enc k w0 blk 0 (swE M x y).toArray ((wr.drew.setCells blk (x * k) (enc (gE M y))).setCells blk (y * k) (enc (gE M x)))) := swJ_swapped hS1 R x y (by omega) (by omega)
      have la := swJ_ld1 hS1 R hMs P x (by omega)
      have lb := swJ_ld1 hS1 R hMs P y (by omega)
      have sa := swJ_st1 hS1 R hMs P x (by omega) (gE M y)
      have sb := swJ_st2 hS1 R hMs P x y (by omega) (by omega) (gE M y) (gE M x)
      have na : (enc (gE M x)).length = k := R.hk _
      have nb : (enc (gE M y)).length = k := R.hk _
      generalize enc (gE M x) = cI at S2 la sb na
      generalize enc (gE M y) = cJ at S2 lb sa sb nb
      have HSw : Hid (swE M x y = swN L a b (i + 1)) := by
        show _ = swE (swN L a b i) (a + i) (b + i)
        rw [hM, hx, hy]
      clear hS1 S1 hM
      go_wp2_with fail
      go_big_region_o
      clear la lb sa sb
      generalize (wr.drew.setCells blk (x * k) cJ).setCells blk (y * k) cI = w2 at S2 ⊢
      go_wp2_with fail
      refine ⟨⟨i + 1, by go_num, by omega, ?_⟩, by simp [intOf]; omega⟩
      rw [← HSw.out]
      exact S2
    · obtain rfl : i = n := by omega
      have hltz : ¬ (i : Int) < (i : Int) := by omega
      go_wp2_with fail
      go_end0
      exact ⟨rfl, S1.out⟩
end Go.Proofs.YtigegdelhpdlhaaGreatDoor

/- Layer 18: a stretch of a row of entries is turned round: the library's rotate. -/
namespace Go.Proofs.YtigegdelhpdlhaaGreatDoor
open Go.RowKit QP Go.Sort Go.Shelf Go.Lib

set_option maxRecDepth 1000000 in
set_option maxHeartbeats 4000000 in
theorem jrot_gen {P : Program} {k : Nat} (Q : PJ P k) (FG : P.funcs[150]? = some Tryz.f150) (FS : P.funcs[176]? = some Tryz.f176) (enc : Er → List Value) (gf : Nat) (w0 : World) (blk cap a m b : Nat) (L0 L : List Er) (W : World) (R : Go.Proofs.RowK enc k w0 blk 0 L0.toArray) (S : SWK enc k w0 blk 0 L.toArray W) (hs : L.length = L0.length) (hab : a < m ∧ m < b) (hb : b ≤ L.length) (hL : L.length ≤ 1000) :
    Calls P 150 #[.slice (some ⟨blk, 0, none⟩) L.length cap, .int .i64 (a : Int), .int .i64 (m : Int), .int .i64 (b : Int), .func (.func gf) #[] #[]] W fun e w' => e = .returned (.tuple #[]) ∧ ∃ L', Mv a b L L' ∧ (∀ x, gE L' x = rotF L a m b x) ∧ SWK enc k w0 blk 0 L'.toArray w' := by
  have mixed := Q.mixed; have t3 := Q.t3; have a3 := Q.a3; have z3 := Q.z3; have v3 := Q.v3; have t38 := Q.t38; have a38 := Q.a38; have z38 := Q.z38; have v38 := Q.v38; have aE := Q.aE; have zE := Q.zE
  have u38 := run_underlying Q.t38
  have egS : ∀ args w, (callFunc 176 args).run P w = .ok (.enter 176 args) w := enters_of FS (by kernel_rfl) rfl
  obtain ⟨N, hN⟩ : ∃ N, L.length = N := ⟨_, rfl⟩
  have HSw : Hid (∀ (x y n : Nat) (M : List Er) u, M.length = N → x + n ≤ y → y + n ≤ N → SWK enc k w0 blk 0 M.toArray u → Calls P 176 #[.slice (some ⟨blk, 0, none⟩) N cap, .int .i64 (x : Int), .int .i64 (y : Int), .int .i64 (n : Int), .func (.func gf) #[] #[]] u fun e w' => e = .returned (.tuple #[]) ∧ Hid (SWK enc k w0 blk 0 (swN M x y n).toArray w')) := fun x y n M u hM h1 h2 h3 => by
    have := jswr_gen Q FS enc gf w0 blk cap x y n L0 M u R h3 (by rw [hM, ← hN, hs]) h1 (by omega) (by omega)
    rw [hM] at this
    exact this
  have HS0 : Hid (SWK enc k w0 blk 0 L.toArray W) := S
  have HLn : Hid (L.length = N) := hN
  rw [hN] at hb hL ⊢
  clear S hN hs
  have r1 : IntKind.i64.wrap ((m : Int) - (a : Int)) = ((m - a : Nat) : Int) := by rw [IntKind.wrap_i64]; omega
  have r2 : IntKind.i64.wrap ((b : Int) - (m : Int)) = ((b - m : Nat) : Int) := by rw [IntKind.wrap_i64]; omega
  go_enter FG, Tryz.ntmps150
  go_wp2_with fail
  go_loopw [10, 11] (fun vi vj wr => ∃ (i j : Nat) (M : List Er), vi = .int .i64 i ∧ vj = .int .i64 j ∧ 0 < i ∧ 0 < j ∧ i ≤ m ∧ a ≤ m - i ∧ m + j ≤ b ∧ Hid (Mv a b L M) ∧ Hid (∀ x, rotF M (m - i) m (m + j) x = rotF L a m b x) ∧ Hid (SWK enc k w0 blk 0 M.toArray wr)) (fun vi vj _ => (intOf vi).toNat + (intOf vj).toNat)
  case atStart => exact ⟨m - a, b - m, L, by go_num, by go_num, by omega, by omega, by omega, by omega, by omega, Mv.refl _ _ _, (fun x => by rw [show m - (m - a) = a by omega, show m + (b - m) = b by omega]), HS0⟩
  case round =>
    clear HS0 r1 r2
    obtain ⟨i, j, M, rfl, rfl, hi0, hj0, him, hai, hjb, HM, HR, HS⟩ := hrel
    have hMl : Hid (M.length = N) := HM.out.len.trans HLn.out
    obtain ⟨x, hx⟩ : ∃ x, m - i = x := ⟨_, rfl⟩
    have rx : IntKind.i64.wrap ((m : Int) - (i : Int)) = (x : Int) := by rw [IntKind.wrap_i64]; omega
    rcases Nat.lt_trichotomy i j with hij | hij | hij
    · have q1 : ¬ (i : Int) = (j : Int) := by omega
      have q2 : ¬ (j : Int) < (i : Int) := by omega
      obtain ⟨y, hy⟩ : ∃ y, m + j - i = y := ⟨_, rfl⟩
      have ry0 : IntKind.i64.wrap ((m : Int) + (j : Int)) = (m : Int) + (j : Int) := by rw [IntKind.wrap_i64]; omega
      have ry : IntKind.i64.wrap ((m : Int) + (j : Int) - (i : Int)) = (y : Int) := by rw [IntKind.wrap_i64]; omega
      have HC : Hid (Calls P 176 #[.slice (some ⟨blk, 0, none⟩) N cap, .int .i64 (x : Int), .int .i64 (y : Int), .int .i64 (i : Int), .func (.func gf) #[] #[]] wr fun e w' => e = .returned (.tuple #[]) ∧ Hid (SWK enc k w0 blk 0 (swN M x y i).toArray w')) := HSw.out x y i M wr hMl.out (by omega) (by omega) HS.out
      have HM2 : Hid (Mv a b L (swN M x y i)) := HM.out.trans (swN_mv M x y a b (by omega) (by omega) (by rw [hMl.out]; exact hb) i (by omega) (by omega))
      have HR2 : Hid (∀ z, rotF (swN M x y i) (m - i) m (m + (j - i)) z = rotF L a m b z) := fun z => by
        rw [← hx, ← hy, rotF_right hij hi0 him (by rw [hMl.out]; omega)]
        exact HR.out z
      clear hx hy
      go_wp2_with (go_at_call 176; (with_reducible refine HC.out.mono ?_); rintro e w1 ⟨rfl, S1⟩)
      exact ⟨⟨i, j - i, swN M x y i, rfl, by go_num, hi0, by omega, him, hai, by omega, HM2, HR2, S1⟩, by simp [intOf]; omega⟩
    · subst hij
      have HC : Hid (Calls P 176 #[.slice (some ⟨blk, 0, none⟩) N cap, .int .i64 (x : Int), .int .i64 (m : Int), .int .i64 (i : Int), .func (.func gf) #[] #[]] wr fun e w' => e = .returned (.tuple #[]) ∧ Hid (SWK enc k w0 blk 0 (swN M x m i).toArray w')) := HSw.out x m i M wr hMl.out (by omega) (by omega) HS.out
      have HM2 : Hid (Mv a b L (swN M x m i)) := HM.out.trans (swN_mv M x m a b (by omega) (by omega) (by rw [hMl.out]; exact hb) i (by omega) (by omega))
      have HR2 : Hid (∀ z, gE (swN M x m i) z = rotF L a m b z) := fun z => by
        rw [← hx, rotF_same him (by rw [hMl.out]; omega)]
        exact HR.out z
      clear hx
      go_wp2_with (go_at_call 176; (with_reducible refine HC.out.mono ?_); rintro e w1 ⟨rfl, S1⟩)
      go_end0
      exact ⟨rfl, _, HM2.out, HR2.out, S1.out⟩
    · have q1 : ¬ (i : Int) = (j : Int) := by omega
      have q2 : (j : Int) < (i : Int) := by omega
      have HC : Hid (Calls P 176 #[.slice (some ⟨blk, 0, none⟩) N cap, .int .i64 (x : Int), .int .i64 (m : Int), .int .i64 (j : Int), .func (.func gf) #[] #[]] wr fun e w' => e = .returned (.tuple #[]) ∧ Hid (SWK enc k w0 blk 0 (swN M x m j).toArray w')) := HSw.out x m j M wr hMl.out (by omega) (by omega) HS.out
      have HM2 : Hid (Mv a b L (swN M x m j)) := HM.out.trans (swN_mv M x m a b (by omega) (by omega) (by rw [hMl.out]; exact hb) j (by omega) (by omega))
      have HR2 : Hid (∀ z, rotF (swN M x m j) (m - (i - j)) m (m + j) z = rotF L a m b z) := fun z => by
        rw [← hx, rotF_left hij hj0 him (by rw [hMl.out]; omega)]
        exact HR.out z
      clear hx
      go_wp2_with (go_at_call 176; (with_reducible refine HC.out.mono ?_); rintro e w1 ⟨rfl, S1⟩)
      exact ⟨⟨i - j, j, swN M x m j, by go_num, rfl, by omega, hj0, by omega, by omega, hjb, HM2, HR2, S1⟩, by simp [intOf]; omega⟩
end Go.Proofs.YtigegdelhpdlhaaGreatDoor

/- Layer 18: one entry is put among sorted others: a short way of the library's symMerge. (By jsym.py.) -/
namespace Go.Proofs.YtigegdelhpdlhaaGreatDoor
open Go.RowKit QP Go.Sort Go.Shelf Go.Lib

/-- of an unsigned number -/
structure PU (P : Program) : Prop where
  t172 : P.underlying 172 = some (TypeDesc.int IntKind.u64)
  a172 : ∀ w, (isAgg 172).run P w = .ok false w
  z172 : ∀ w, (Go.sizeOf 172).run P w = .ok 1 w
  v172 : ∀ w, (zeroValue 172).run P w = .ok (Value.int IntKind.u64 0) w
  t4 : P.underlying 4 = some TypeDesc.bool
  a4 : ∀ w, (isAgg 4).run P w = .ok false w
  z4 : ∀ w, (Go.sizeOf 4).run P w = .ok 1 w
theorem pu : PU Tryz.prog := ⟨Tryz.underlying172, Tryz.isAgg172, Tryz.sizeOf172, Tryz.zeroValue172, Tryz.underlying4, Tryz.isAgg4, Tryz.sizeOf4⟩
theorem cfE_neg (x y : Er) : cfE x y < 0 ↔ x.T < y.T := by
  unfold cfE cmpI
  by_cases h1 : x.T < y.T
  · rw [if_pos h1]
    exact ⟨fun _ => h1, fun _ => by decide⟩
  · rw [if_neg h1]
    by_cases h2 : y.T < x.T
    · rw [if_pos h2]
      exact ⟨fun h => absurd h (by decide), fun h => absurd h h1⟩
    · rw [if_neg h2]
      exact ⟨fun h => absurd h (by decide), fun h => absurd h h1⟩
section
variable {w0 W : World} {blk k : Nat} {L L0 : List Er} {enc : Er → List Value}
theorem swJ_ld (h : SWK enc k w0 blk 0 L.toArray W) (R : Go.Proofs.RowK enc k w0 blk 0 L0.toArray) (hs : L.length = L0.length) (P : Program) (i : Nat) (hi : i < L.length) (n : Nat) (os : Array Obj) : Sem.run P (loadCellsFrom ⟨blk, i * k, none⟩ 0 k #[]) (grow (W.drewN n) os) = .ok (enc (gE L i)).toArray (grow (W.drewN n) os) := by
  have := SWK.ld h R (by simpa using hs) P i (by simpa using hi) n os
  rw [getJ, Nat.zero_add] at this
  exact this
theorem swJ_cmp {P : Program} {g : Nat} (h : SWK enc k w0 blk 0 L.toArray W) (hC : CmpLays P g #[] enc k cfE blk 0 L0.length w0) (hs : L.length = L0.length) (x y : Er) (n : Nat) (os : Array Obj) :
    Calls P g #[.agg (enc x).toArray, .agg (enc y).toArray] (grow (W.drewN n) os) fun e w' => e = .returned (.int .i64 (cfE x y)) ∧ ∃ q os', w' = grow ((grow (W.drewN n) os).drewN q) os' :=
  SWK.cmp h hC (by simpa using hs) x y n os
end
theorem sort_out {L1 L2 : List Er} {a md x y : Nat} (m : Mv a md L1 L2) (hx : md ≤ x) (h : SortR L1 x y) : SortR L2 x y := fun i j q1 q2 q3 => by
  rw [m.out i (Or.inr (by omega)), m.out j (Or.inr (by omega))]
  exact h i j q1 q2 q3

theorem wrap_u64j (n : Int) : IntKind.u64.wrap n = n % 18446744073709551616 := by simp [IntKind.wrap, IntKind.bits, IntKind.signed]
set_option maxRecDepth 1000000 in
set_option maxHeartbeats 8000000 in
theorem jsym_front {P : Program} {k : Nat} (Q : PJ P k) (U : PU P) (FG : P.funcs[126]? = some Tryz.f126) (enc : Er → List Value) (gf : Nat) (eg : ∀ args w, (callFunc gf args).run P w = .ok (.enter gf args) w) (w0 : World) (blk cap : Nat) (L0 : List Er) (R : Go.Proofs.RowK enc k w0 blk 0 L0.toArray) (hC : CmpLays P gf #[] enc k cfE blk 0 L0.length w0) (a m b : Nat) (L : List Er) (W : World) (hs : L.length = L0.length) (hab : a < m ∧ m < b) (hb : b ≤ L.length) (hL : L.length ≤ 1000) (s2 : SortR L m b) (S : SWK enc k w0 blk 0 L.toArray W) (h1 : m - a = 1) :
    Calls P 126 #[.slice (some ⟨blk, 0, none⟩) L.length cap, .int .i64 (a : Int), .int .i64 (m : Int), .int .i64 (b : Int), .func (.func gf) #[] #[]] W fun e w' => e = .returned (.tuple #[]) ∧ ∃ L', Mv a b L L' ∧ SortR L' a b ∧ SWK enc k w0 blk 0 L'.toArray w' := by
  have mixed := Q.mixed; have t3 := Q.t3; have a3 := Q.a3; have z3 := Q.z3; have v3 := Q.v3; have t38 := Q.t38; have a38 := Q.a38; have z38 := Q.z38; have v38 := Q.v38; have aE := Q.aE; have zE := Q.zE
  have t172 := U.t172; have a172 := U.a172; have z172 := U.z172; have v172 := U.v172; have t4 := U.t4; have a4 := U.a4; have z4 := U.z4
  have u38 := run_underlying Q.t38
  have HC : Hid (CmpLays P gf #[] enc k cfE blk 0 L0.length w0) := hC
  obtain ⟨N, hN⟩ : ∃ N, L.length = N := ⟨_, rfl⟩
  have HLn : Hid (L.length = N) := hN
  have HLs : Hid (L.length = L0.length) := hs
  have HS0 : Hid (SWK enc k w0 blk 0 L.toArray W) := S
  rw [hN] at hb hL ⊢
  clear S hN hs hC
  have w0a : IntKind.i64.wrap ((m : Int) - (a : Int)) = 1 := by rw [IntKind.wrap_i64]; omega
  have H0 : Hid (SortR L m b) := s2
  clear s2
  go_enter FG, Tryz.ntmps126
  go_wp2_with fail
  go_loopw [10, 11] (fun vi vj wr => ∃ i j : Nat, vi = .int .i64 i ∧ vj = .int .i64 j ∧ m ≤ i ∧ i ≤ j ∧ j ≤ b ∧ Hid (∀ x, m ≤ x → x < i → (gE L x).T < (gE L a).T) ∧ Hid (∀ x, j ≤ x → x < b → (gE L a).T ≤ (gE L x).T) ∧ Hid (SWK enc k w0 blk 0 L.toArray wr)) (fun vi vj _ => (intOf vj).toNat - (intOf vi).toNat)
  case atStart => exact ⟨m, b, rfl, rfl, Nat.le_refl _, by omega, Nat.le_refl _, (fun x h1 h2 => by omega), (fun x h1 h2 => by omega), HS0⟩
  case round =>
    clear HS0 w0a
    obtain ⟨i, j, rfl, rfl, hmi, hij, hjb, Hlo, Hhi, HS⟩ := hrel
    by_cases hlt : i < j
    · have hltz : (i : Int) < (j : Int) := by omega
      obtain ⟨h, hh⟩ : ∃ h, (i + j) / 2 = h := ⟨_, rfl⟩
      have w1h : IntKind.i64.wrap ((i : Int) + (j : Int)) = (i : Int) + (j : Int) := by rw [IntKind.wrap_i64]; omega
      have w2h : IntKind.u64.wrap ((i : Int) + (j : Int)) = ((i + j : Nat) : Int) := by rw [wrap_u64j]; omega
      have w3h : ((i : Int) + (j : Int)) / 2 = (h : Int) := by omega
      have w4h : IntKind.i64.wrap (h : Int) = (h : Int) := by rw [IntKind.wrap_i64]; omega
      have hh : i ≤ h ∧ h < j := by omega
      have hbd : (h : Int) < (N : Int) ∧ (a : Int) < (N : Int) := by omega
      obtain ⟨bh, ba⟩ := hbd
      have HV : Hid (cfE (gE L h) (gE L a) < 0 ↔ (gE L h).T < (gE L a).T) := cfE_neg _ _
      by_cases hv : cfE (gE L h) (gE L a) < 0
      · have Hlo2 : Hid (∀ x, m ≤ x → x < h + 1 → (gE L x).T < (gE L a).T) := fun x q1 q2 => by
          have h3 := HV.out.1 hv
          have h4 := H0.out x h q1 (by omega) (by omega)
          omega
        clear HV
        have la := swJ_ld HS.out R HLs.out P h (by rw [HLn.out]; omega)
        have lb := swJ_ld HS.out R HLs.out P a (by rw [HLn.out]; omega)
        have hcm := swJ_cmp HS.out HC.out HLs.out (gE L h) (gE L a)
        have na := R.hk (gE L h)
        have nb := R.hk (gE L a)
        generalize enc (gE L h) = cI at la hcm na
        generalize enc (gE L a) = cJ at lb hcm nb
        generalize cfE (gE L h) (gE L a) = cv at hcm hv
        go_wp2_with fail
        go_quiet_grown (first | (go_at_fn gf; refine Calls.grown_of (hcm _ _)))
        have S2 : Hid (SWK enc k w0 blk 0 L.toArray (grow (wr.drewN nq) osq)) := HS.out.grown nq osq
        clear la lb hcm HS
        generalize grow (wr.drewN nq) osq = w2 at S2 ⊢
        go_wp2_with fail
        exact ⟨⟨h + 1, j, by go_num, rfl, by omega, by omega, hjb, Hlo2, Hhi, S2⟩, by simp [intOf]; omega⟩
      · have Hhi2 : Hid (∀ x, h ≤ x → x < b → (gE L a).T ≤ (gE L x).T) := fun x q1 q2 => by
          have h3 : ¬ (gE L h).T < (gE L a).T := fun h => hv (HV.out.2 h)
          have h4 := H0.out h x (by omega) q1 q2
          omega
        clear HV
        have la := swJ_ld HS.out R HLs.out P h (by rw [HLn.out]; omega)
        have lb := swJ_ld HS.out R HLs.out P a (by rw [HLn.out]; omega)
        have hcm := swJ_cmp HS.out HC.out HLs.out (gE L h) (gE L a)
        have na := R.hk (gE L h)
        have nb := R.hk (gE L a)
        generalize enc (gE L h) = cI at la hcm na
        generalize enc (gE L a) = cJ at lb hcm nb
        generalize cfE (gE L h) (gE L a) = cv at hcm hv
        go_wp2_with fail
        go_quiet_grown (first | (go_at_fn gf; refine Calls.grown_of (hcm _ _)))
        have S2 : Hid (SWK enc k w0 blk 0 L.toArray (grow (wr.drewN nq) osq)) := HS.out.grown nq osq
        clear la lb hcm HS
        generalize grow (wr.drewN nq) osq = w2 at S2 ⊢
        go_wp2_with fail
        exact ⟨⟨i, h, rfl, rfl, hmi, by omega, by omega, Hlo, Hhi2, S2⟩, by simp [intOf]; omega⟩
    · obtain rfl : i = j := by omega
      have hltz : ¬ (i : Int) < (i : Int) := by omega
      have w5 : IntKind.i64.wrap ((i : Int) - 1) = ((i - 1 : Nat) : Int) := by rw [IntKind.wrap_i64]; omega
      go_wp2_with fail
      go_loopw [13] (fun vk wr => ∃ (q : Nat) (M : List Er), vk = .int .i64 q ∧ a ≤ q ∧ q ≤ i - 1 ∧ Hid (Mv a b L M) ∧ Hid (∀ x, gE M x = if a ≤ x ∧ x < q then gE L (x + 1) else if x = q then gE L a else gE L x) ∧ Hid (SWK enc k w0 blk 0 M.toArray wr)) (fun vk _ => i - (intOf vk).toNat)
      case atStart => exact ⟨a, L, rfl, Nat.le_refl _, by omega, Mv.refl _ _ _, (fun x => by
        rw [if_neg (by omega)]
        split
        · next e => rw [e]
        · rfl), HS⟩
      case round =>
        clear HS
        obtain ⟨q, M, rfl, haq, hqi, HM, HG, HS⟩ := hrel
        have HMl : Hid (M.length = N) := HM.out.len.trans HLn.out
        by_cases hq : q < i - 1
        · have hqz : (q : Int) < ((i - 1 : Nat) : Int) := by omega
          have hqz2 : (q : Int) < (i : Int) - 1 := by omega
          obtain ⟨p, hp⟩ : ∃ p, q + 1 = p := ⟨_, rfl⟩
          have HN2 : Hid (Mv a b L (swE M q p) ∧ ∀ x, gE (swE M q p) x = if a ≤ x ∧ x < q + 1 then gE L (x + 1) else if x = q + 1 then gE L a else gE L x) := by
            rw [← hp]
            exact ⟨HM.out.trans (swE_mv ⟨by omega, by omega⟩ ⟨by omega, by omega⟩ (by rw [HMl.out]; exact hb)), step_right haq (by rw [HLn.out]; omega) HM.out.len HG.out⟩
          have w6 : IntKind.i64.wrap ((q : Int) + 1) = (p : Int) := by rw [IntKind.wrap_i64]; omega
          have hMs : M.length = L0.length := by rw [HMl.out, ← HLn.out, HLs.out]
          have e1 : ((q : Int)).toNat = q := by omega
          have e2 : ((p : Int)).toNat = p := by omega
          have b1 : (q : Int) < (N : Int) := by omega
          have b2 : (p : Int) < (N : Int) := by omega
          have hqM : q < M.length := by rw [HMl.out]; omega
          have hpM : p < M.length := by rw [HMl.out]; omega
          have S2 : Hid (SWK enc k w0 blk 0 (swE M q p).toArray ((wr.drew.setCells blk (q * k) (enc (gE M p))).setCells blk (p * k) (enc (gE M q)))) := swJ_swapped HS.out R q p hqM hpM
          have la := swJ_ld1 HS.out R hMs P q hqM
          have lb := swJ_ld1 HS.out R hMs P p hpM
          have sa := swJ_st1 HS.out R hMs P q hqM (gE M p)
          have sb := swJ_st2 HS.out R hMs P q p hqM hpM (gE M p) (gE M q)
          have na := R.hk (gE M q)
          have nb := R.hk (gE M p)
          generalize enc (gE M q) = cI at S2 la sb na
          generalize enc (gE M p) = cJ at S2 lb sa sb nb
          clear HS HG
          go_wp2_with fail
          go_big_region_o
          clear la lb sa sb
          generalize (wr.drew.setCells blk (q * k) cJ).setCells blk (p * k) cI = w2 at S2 ⊢
          go_wp2_with fail
          exact ⟨⟨q + 1, swE M q p, by go_num, by omega, by omega, HN2.out.1, HN2.out.2, S2⟩, by simp [intOf]; omega⟩
        · obtain rfl : q = i - 1 := by omega
          have hqz : ¬ ((i - 1 : Nat) : Int) < ((i - 1 : Nat) : Int) := by omega
          have HE : Hid (SortR M a b) := ins_front (i := i) ⟨by omega, hjb⟩ (by rw [show a + 1 = m by omega]; exact H0.out) (fun x q1 q2 => Hlo.out x (by omega) q2) (fun x q1 q2 => Hhi.out x q1 q2) HG.out
          go_wp2_with fail
          go_returns
          exact ⟨rfl, M, HM.out, HE.out, HS.out⟩
end Go.Proofs.YtigegdelhpdlhaaGreatDoor
