import Derived.Shelf.Strconv.Itoa3
import Derived.Test.YtigegdelhpdlhaaGreatDoorProg
import Derived.Test.YtigegdelhpdlhaaGreatDoorJToldJ
import Derived.Laws.StandIn
import Derived.Laws.Externs
/- The library contract that the proofs of this seat lean on (a copy of a text), laid at its program. -/
namespace Go.Proofs
open Go.Shelf
def Tryz.laysItoaSmall_ren : Go.Shelf.Ren := ⟨fun | 171 => 94 | 243 => 116 | 246 => 133 | 283 => 159 | 284 => 160 | 285 => 161 | 286 => 162 | 129 => 144 | 317 => 180 | 318 => 181 | 319 => 182 | 320 => 183 | 337 => 186 | 338 => 187 | n => n, fun | 3 => 3 | 9 => 9 | 2 => 2 | 4 => 4 | 171 => 212 | 0 => 0 | 53 => 39 | 37 => 54 | 5 => 5 | 173 => 214 | 212 => 225 | 51 => 165 | 20 => 20 | 213 => 226 | 46 => 172 | 232 => 235 | 233 => 236 | n => n, fun | 17 => 2 | 18 => 3 | 19 => 4 | n => n⟩
theorem Tryz.laysItoaSmall : Go.Proofs.Lays.n171 Tryz.prog Tryz.laysItoaSmall_ren := {
  mixed := by kernel_rfl
  f129 := Tryz.func144.trans (congrArg some (by kernel_rfl))
  f171 := Tryz.func94.trans (congrArg some (by kernel_rfl))
  f243 := Tryz.func116.trans (congrArg some (by kernel_rfl))
  f246 := Tryz.func133.trans (congrArg some (by kernel_rfl))
  f283 := Tryz.func159.trans (congrArg some (by kernel_rfl))
  f284 := Tryz.func160.trans (congrArg some (by kernel_rfl))
  f285 := Tryz.func161.trans (congrArg some (by kernel_rfl))
  f286 := Tryz.func162.trans (congrArg some (by kernel_rfl))
  f317 := Tryz.func180.trans (congrArg some (by kernel_rfl))
  f318 := Tryz.func181.trans (congrArg some (by kernel_rfl))
  f319 := Tryz.func182.trans (congrArg some (by kernel_rfl))
  f320 := Tryz.func183.trans (congrArg some (by kernel_rfl))
  f337 := Tryz.func186.trans (congrArg some (by kernel_rfl))
  f338 := Tryz.func187.trans (congrArg some (by kernel_rfl))
  t0 := Tryz.underlying0
  a0 := Tryz.isAgg0
  z0 := Tryz.sizeOf0
  v0 := Tryz.zeroValue0
  t2 := Tryz.underlying2
  a2 := Tryz.isAgg2
  z2 := Tryz.sizeOf2
  v2 := Tryz.zeroValue2
  t3 := Tryz.underlying3
  a3 := Tryz.isAgg3
  z3 := Tryz.sizeOf3
  v3 := Tryz.zeroValue3
  t4 := Tryz.underlying4
  a4 := Tryz.isAgg4
  z4 := Tryz.sizeOf4
  v4 := Tryz.zeroValue4
  t5 := Tryz.underlying5
  a5 := Tryz.isAgg5
  z5 := Tryz.sizeOf5
  v5 := Tryz.zeroValue5
  t9 := Tryz.underlying9
  a9 := Tryz.isAgg9
  z9 := Tryz.sizeOf9
  v9 := Tryz.zeroValue9
  t20 := Tryz.underlying20
  a20 := Tryz.isAgg20
  z20 := Tryz.sizeOf20
  v20 := Tryz.zeroValue20
  t37 := Tryz.underlying54
  a37 := Tryz.isAgg54
  z37 := Tryz.sizeOf54
  v37 := Tryz.zeroValue54
  t46 := Tryz.underlying172
  a46 := Tryz.isAgg172
  z46 := Tryz.sizeOf172
  v46 := Tryz.zeroValue172
  t51 := Tryz.underlying165
  a51 := Tryz.isAgg165
  z51 := Tryz.sizeOf165
  v51 := Tryz.zeroValue165
  t53 := Tryz.underlying39
  a53 := Tryz.isAgg39
  z53 := Tryz.sizeOf39
  v53 := Tryz.zeroValue39
  t171 := Tryz.underlying212
  a171 := Tryz.isAgg212
  z171 := Tryz.sizeOf212
  v171 := Tryz.zeroValue212
  t173 := Tryz.underlying214
  a173 := Tryz.isAgg214
  z173 := Tryz.sizeOf214
  v173 := Tryz.zeroValue214
  t212 := Tryz.underlying225
  a212 := Tryz.isAgg225
  z212 := Tryz.sizeOf225
  v212 := Tryz.zeroValue225
  t213 := Tryz.underlying226
  a213 := Tryz.isAgg226
  z213 := Tryz.sizeOf226
  t232 := Tryz.underlying235
  a232 := Tryz.isAgg235
  z232 := Tryz.sizeOf235
  v232 := Tryz.zeroValue235
  t233 := Tryz.underlying236
  a233 := Tryz.isAgg236
  z233 := Tryz.sizeOf236
  v233 := Tryz.zeroValue236
  g17 := by kernel_rfl
  g18 := by kernel_rfl
  g19 := by kernel_rfl }
end Go.Proofs

/- Layer 18: the names of logs: which generation a name is of; what a log's name is. -/
namespace Go.Proofs.YtigegdelhpdlhaaGreatDoor
open Go.RowKit QP

section
variable {s p r : ByteArray} {w : World}
set_option maxHeartbeats 1000000 in
theorem hasP_any (z : Bool) (hl : p.size ≤ s.size) (h : ((s.extract 0 p.size).toList == p.toList) = z) : Calls Tryz.prog 128 #[.string s, .string p] w fun e w' => e = .returned (.bool z) ∧ w = w' := by
  have k1 : (p.size : Int) ≤ (s.size : Int) := by omega
  have k2 : ∀ u : World, (Instr.slice 9 (.string s) none (some (.int .i64 (p.size : Int))) none).run Tryz.prog u = .ok (.string (s.extract 0 p.size)) u := fun u => by
    simp [go_sem, Tryz.underlying9, hl]
  obtain ⟨y, hy⟩ : ∃ y, s.extract 0 p.size = y := ⟨_, rfl⟩
  rw [hy] at k2 h
  clear hy
  go_enter Tryz.func128, Tryz.ntmps128
  go_wp2
  go_ret
  exact ⟨rfl, rfl⟩

set_option maxHeartbeats 1000000 in
theorem cutP_yes (hl : p.size ≤ s.size) (h : ((s.extract 0 p.size).toList == p.toList) = true) (hr : s.extract p.size s.size = r) : Calls Tryz.prog 83 #[.string s, .string p] w fun e w' => e = .returned (.tuple #[.string r, .bool true]) ∧ w = w' := by
  have HL : Hid (∀ u : World, Calls Tryz.prog 105 #[.string s, .string p] u fun e w' => e = .returned (.tuple #[.string r, .bool true]) ∧ u = w') := fun u => by
    have HH : Hid (∀ u : World, Calls Tryz.prog 128 #[.string s, .string p] u fun e w' => e = .returned (.bool true) ∧ u = w') := fun u => hasP_any true hl h
    have k2 : ∀ u : World, (Instr.slice 9 (.string s) (some (.int .i64 (p.size : Int))) none none).run Tryz.prog u = .ok (.string r) u := fun u => by
      rw [← hr]
      simp [go_sem, Tryz.underlying9, hl]
    clear h hr
    go_enter Tryz.func105, Tryz.ntmps105
    go_wp2_with (go_at_call 128; (with_reducible refine (HH.out _).mono ?_); rintro e w1 ⟨rfl, rfl⟩)
    go_returns
    exact ⟨rfl, rfl⟩
  clear h hr
  go_enter Tryz.func83, Tryz.ntmps83
  go_wp2_with (go_at_call 105; (with_reducible refine (HL.out _).mono ?_); rintro e w1 ⟨rfl, rfl⟩)
  go_returns
  exact ⟨rfl, rfl⟩

set_option maxHeartbeats 1000000 in
theorem cutP_no (hl : p.size ≤ s.size) (h : ((s.extract 0 p.size).toList == p.toList) = false) : Calls Tryz.prog 83 #[.string s, .string p] w fun e w' => e = .returned (.tuple #[.string s, .bool false]) ∧ w = w' := by
  have HL : Hid (∀ u : World, Calls Tryz.prog 105 #[.string s, .string p] u fun e w' => e = .returned (.tuple #[.string s, .bool false]) ∧ u = w') := fun u => by
    have HH : Hid (∀ u : World, Calls Tryz.prog 128 #[.string s, .string p] u fun e w' => e = .returned (.bool false) ∧ u = w') := fun u => hasP_any false hl h
    clear h
    go_enter Tryz.func105, Tryz.ntmps105
    go_wp2_with (go_at_call 128; (with_reducible refine (HH.out _).mono ?_); rintro e w1 ⟨rfl, rfl⟩)
    go_returns
    exact ⟨rfl, rfl⟩
  clear h
  go_enter Tryz.func83, Tryz.ntmps83
  go_wp2_with (go_at_call 105; (with_reducible refine (HL.out _).mono ?_); rintro e w1 ⟨rfl, rfl⟩)
  go_returns
  exact ⟨rfl, rfl⟩

theorem idxX_law (i : Int) (hi : firstIdx s 46 = i) (w : World) : (callFunc 177 #[.string s, .int .u8 46]).run Tryz.prog w = .ok (.value (.int .i64 i)) w := by
  rw [run_callFunc_indexByte (P := Tryz.prog) Tryz.func177 (by kernel_rfl) (by kernel_rfl) (by kernel_rfl) (by kernel_rfl), run_indexByte_string]
  simp [Result.andThen]
  exact hi

abbrev dotJ : ByteArray := ⟨#[46]⟩
set_option maxHeartbeats 2000000 in
theorem idxS_any (i : Int) (hi : firstIdx s 46 = i) (hne : ([46] == s.toList) = false) : Calls Tryz.prog 129 #[.string s, .string dotJ] w fun e w' => e = .returned (.int .i64 i) ∧ w = w' := by
  have HB : Hid (∀ u : World, Calls Tryz.prog 151 #[.string s, .int .u8 ((dotJ[0].toNat : Nat) : Int)] u fun e w' => e = .returned (.int .i64 i) ∧ u = w') := fun u => by
    have hl := idxX_law (s := s) i hi
    show Calls Tryz.prog 151 #[.string s, .int .u8 46] u _
    clear hi
    go_enter Tryz.func151, Tryz.ntmps151
    go_wp2_with fail
    go_ret
    exact ⟨rfl, rfl⟩
  clear hi
  go_enter Tryz.func129, Tryz.ntmps129
  go_wp2_with (go_at_call 151; (with_reducible refine (HB.out _).mono ?_); rintro e w1 ⟨rfl, rfl⟩)
  go_ret
  exact ⟨rfl, rfl⟩

set_option maxHeartbeats 2000000 in
theorem cut_yes (i : Nat) (x y : ByteArray) (hs : s.size ≤ 1000) (hi : firstIdx s 46 = (i : Int)) (hne : ([46] == s.toList) = false) (hl : i + 1 ≤ s.size) (hx : s.extract 0 i = x) (hy : s.extract (i + 1) s.size = y) : Calls Tryz.prog 84 #[.string s, .string dotJ] w fun e w' => e = .returned (.tuple #[.string x, .string y, .bool true]) ∧ Below w.heap.size w w' := by
  have HL : Hid (∀ u : World, Calls Tryz.prog 106 #[.string s, .string dotJ] u fun e w' => e = .returned (.tuple #[.string x, .string y, .bool true]) ∧ Below u.heap.size u w') := fun u => by
    have HH : Hid (∀ u : World, Calls Tryz.prog 129 #[.string s, .string dotJ] u fun e w' => e = .returned (.int .i64 (i : Int)) ∧ u = w') := fun u => idxS_any (i : Int) hi hne
    have k1 : ∀ u : World, (Instr.slice 9 (.string s) none (some (.int .i64 (i : Int))) none).run Tryz.prog u = .ok (.string x) u := fun u => by
      rw [← hx]
      simp [go_sem, Tryz.underlying9, show i ≤ s.size by omega]
    have k2 : ∀ u : World, (Instr.slice 9 (.string s) (some (.int .i64 ((i : Int) + 1))) none none).run Tryz.prog u = .ok (.string y) u := fun u => by
      rw [← hy]
      simp [go_sem, Tryz.underlying9]
      intro h
      exact absurd (h (by omega)) (by omega)
    have c1 : (0 : Int) ≤ (i : Int) := by omega
    have c2 : (i : Int) ≤ (s.size : Int) := by omega
    have c3 : (0 : Int) ≤ (i : Int) + 1 := by omega
    have c4 : (i : Int) + 1 ≤ (s.size : Int) := by omega
    have c5 : IntKind.i64.wrap ((i : Int) + 1) = (i : Int) + 1 := jwrapI (by omega) (by omega)
    clear hi hx hy
    go_enter Tryz.func106, Tryz.ntmps106
    go_wp2_with (go_at_call 129; (with_reducible refine (HH.out _).mono ?_); rintro e w1 ⟨rfl, rfl⟩)
    go_quiet (fail)
    go_wp2_with fail
    go_ret3
    exact ⟨rfl, below_drewN _ _⟩
  clear hi hx hy
  go_enter Tryz.func84, Tryz.ntmps84
  go_wp2_with (go_at_call 106; (with_reducible refine (HL.out _).mono ?_); rintro e w1 ⟨rfl, hb1⟩)
  go_ret3
  exact ⟨rfl, hb1⟩

set_option maxHeartbeats 2000000 in
theorem cut_no (hi : firstIdx s 46 = -1) (hne : ([46] == s.toList) = false) : Calls Tryz.prog 84 #[.string s, .string dotJ] w fun e w' => e = .returned (.tuple #[.string s, .string ⟨#[]⟩, .bool false]) ∧ w = w' := by
  have HL : Hid (∀ u : World, Calls Tryz.prog 106 #[.string s, .string dotJ] u fun e w' => e = .returned (.tuple #[.string s, .string ⟨#[]⟩, .bool false]) ∧ u = w') := fun u => by
    have HH : Hid (∀ u : World, Calls Tryz.prog 129 #[.string s, .string dotJ] u fun e w' => e = .returned (.int .i64 (-1)) ∧ u = w') := fun u => idxS_any (-1) hi hne
    clear hi
    go_enter Tryz.func106, Tryz.ntmps106
    go_wp2_with (go_at_call 129; (with_reducible refine (HH.out _).mono ?_); rintro e w1 ⟨rfl, rfl⟩)
    go_ret3
    exact ⟨rfl, rfl⟩
  clear hi
  go_enter Tryz.func84, Tryz.ntmps84
  go_wp2_with (go_at_call 106; (with_reducible refine (HL.out _).mono ?_); rintro e w1 ⟨rfl, rfl⟩)
  go_ret3
  exact ⟨rfl, rfl⟩
end
end Go.Proofs.YtigegdelhpdlhaaGreatDoor

/- Layer 18: the names of logs: generationOf, logName. -/
namespace Go.Proofs.YtigegdelhpdlhaaGreatDoor
open Go.RowKit QP

set_option maxHeartbeats 1000000 in
theorem digits_yes (s : ByteArray) (w : World) (hs : s.size ≤ 1000) (h1 : 1 ≤ s.size) (hd : ∀ j (h : j < s.size), 48 ≤ (s[j]'h).toNat ∧ (s[j]'h).toNat ≤ 57) : Calls Tryz.prog 85 #[.string s] w fun e w' => e = .returned (.bool true) ∧ Below w.heap.size w w' := by
  have HD : Hid (∀ j (h : j < s.size), 48 ≤ (s[j]'h).toNat ∧ (s[j]'h).toNat ≤ 57) := hd
  have HN : Hid ((s.toList == []) = false) := by
    show _ = _
    rw [Go.ByteArray.toList_eq, beq_eq_false_iff_ne]
    intro e
    have : s.data.toList.length = s.size := Array.length_toList
    rw [e] at this
    simp at this
    omega
  clear hd
  go_enter Tryz.func85, Tryz.ntmps85
  go_wp2
  go_loopw [6] (fun i wr => ∃ j : Nat, j ≤ s.size ∧ i = .int .i64 j ∧ Hid (Below w.heap.size w wr)) (fun i _ => s.size - (intOf i).toNat)
  case atStart => exact ⟨0, Nat.zero_le _, rfl, Below.refl _ _⟩
  case round =>
    obtain ⟨j, hj, rfl, HB⟩ := hrel
    by_cases hlt : j < s.size
    · have h2 := HD.out j hlt
      have l0 : j < s.size := hlt
      obtain ⟨x, hx⟩ : ∃ x, (s[j]'hlt).toNat = x := ⟨_, rfl⟩
      rw [hx] at h2
      have hlI : (j : Int) < (s.size : Int) := by omega
      have b1 : ¬ (x : Int) < 48 := by omega
      have b2 : ¬ (57 : Int) < (x : Int) := by omega
      have d1 : decide ((x : Int) < 48) = false := decide_eq_false b1
      have d2 : decide ((57 : Int) < (x : Int)) = false := decide_eq_false b2
      go_wp2_with fail
      exact ⟨⟨j + 1, by omega, by go_num, HB⟩, by simp [intOf]; omega⟩
    · have hlI : ¬ (j : Int) < (s.size : Int) := by omega
      have hn := HN.out
      go_wp2
      go_ret
      exact ⟨rfl, HB.out⟩

/-- a number of its digits -/
def cntL (l : List UInt8) : Nat := l.foldl (fun n c => n * 10 + (c.toNat - 48)) 0
theorem cntL_next {l : List UInt8} {j : Nat} (h : j < l.length) : cntL (l.take (j + 1)) = cntL (l.take j) * 10 + (l[j].toNat - 48) := by
  unfold cntL
  rw [List.take_succ_eq_append_getElem h, List.foldl_append]
  rfl

set_option maxHeartbeats 1000000 in
theorem count_any (s : ByteArray) (w : World) (hs : s.size ≤ 1000) (hd : ∀ j (h : j < s.size), 48 ≤ (s[j]'h).toNat ∧ (s[j]'h).toNat ≤ 57) (hb : ∀ j, j ≤ s.size → cntL (s.data.toList.take j) ≤ 10000) : Calls Tryz.prog 86 #[.string s] w fun e w' => e = .returned (.int .i64 (cntL s.data.toList : Nat)) ∧ Below w.heap.size w w' := by
  have HD : Hid (∀ j (h : j < s.size), 48 ≤ (s[j]'h).toNat ∧ (s[j]'h).toNat ≤ 57) := hd
  have HBd : Hid (∀ j, j ≤ s.size → cntL (s.data.toList.take j) ≤ 10000) := hb
  clear hd hb
  go_enter Tryz.func86, Tryz.ntmps86
  go_wp2
  go_loopw [3, 7] (fun v i wr => ∃ j n : Nat, j ≤ s.size ∧ i = .int .i64 j ∧ v = .int .i64 n ∧ Hid (n = cntL (s.data.toList.take j)) ∧ Hid (Below w.heap.size w wr)) (fun _ i _ => s.size - (intOf i).toNat)
  case atStart => exact ⟨0, 0, Nat.zero_le _, rfl, rfl, (rfl : _ = _), Below.refl _ _⟩
  case round =>
    obtain ⟨j, n, hj, rfl, rfl, HNn, HB⟩ := hrel
    have hn := HBd.out j hj
    rw [← HNn.out] at hn
    by_cases hlt : j < s.size
    · have h2 := HD.out j hlt
      have l0 : j < s.size := hlt
      have hnx := cntL_next (l := s.data.toList) (j := j) (by show j < s.data.toList.length; rw [Array.length_toList]; exact hlt)
      have hget : (s.data.toList[j]'(by rw [Array.length_toList]; exact hlt)).toNat = (s[j]'hlt).toNat := rfl
      rw [hget, ← HNn.out] at hnx
      obtain ⟨x, hx⟩ : ∃ x, (s[j]'hlt).toNat = x := ⟨_, rfl⟩
      rw [hx] at h2 hnx
      obtain ⟨y, hy⟩ : ∃ y, x - 48 = y := ⟨_, rfl⟩
      obtain ⟨z, hz⟩ : ∃ z, n * 10 + y = z := ⟨_, rfl⟩
      rw [hy, hz] at hnx
      have HZ : Hid (z = cntL (s.data.toList.take (j + 1))) := hnx.symm
      have hlI : (j : Int) < (s.size : Int) := by omega
      have b1 : (x : Int) - 48 = (y : Int) := by omega
      have b2 : IntKind.u8.wrap (y : Int) = (y : Int) := by
        simp [IntKind.wrap, IntKind.bits, IntKind.signed]
        omega
      have b3 : (y : Int) % 256 = (y : Int) := by omega
      have b4 : (n : Int) * 10 + (y : Int) = (z : Int) := by omega
      have b5 : (z : Int) ≤ 1099511627776 := by omega
      have b6 : min (z : Int) 1099511627776 = (z : Int) := by omega
      have b7 : IntKind.i64.wrap ((n : Int) * 10) = (n : Int) * 10 := jwrapI (by omega) (by omega)
      have b8 : IntKind.i64.wrap (z : Int) = (z : Int) := jwrapI (by omega) (by omega)
      have b9 : IntKind.i64.wrap (y : Int) = (y : Int) := jwrapI (by omega) (by omega)
      clear hnx hget hy hz
      go_wp2_with fail
      exact ⟨⟨j + 1, z, by omega, by go_num, rfl, HZ, HB⟩, by simp [intOf]; omega⟩
    · obtain rfl : j = s.size := by omega
      have hlI : ¬ (s.size : Int) < (s.size : Int) := by omega
      have hR := HNn.out
      rw [List.take_of_length_le (by rw [Array.length_toList]; exact Nat.le_refl _)] at hR
      have HR : Hid (n = cntL s.data.toList) := hR
      clear hR
      go_wp2
      go_ret
      exact ⟨by rw [← HR.out]; rfl, HB.out⟩

/-- a number's digits, a log's name -/
def decB (g : Nat) : ByteArray := ⟨(Lib.decDigits g).toArray⟩
def logP : ByteArray := ⟨#[108, 111, 103, 46]⟩
def restB (v g : Nat) : ByteArray := decB v ++ dotJ ++ decB g
def logB (v g : Nat) : ByteArray := logP ++ decB v ++ dotJ ++ decB g
structure NameF (v g : Nat) : Prop where
  size : 7 ≤ (logB v g).size ∧ (logB v g).size ≤ 8
  pre : (((logB v g).extract 0 logP.size).toList == logP.toList) = true
  rest : (logB v g).extract logP.size (logB v g).size = restB v g
  rsize : 3 ≤ (restB v g).size ∧ (restB v g).size ≤ 4
  idx : firstIdx (restB v g) 46 = 1
  ne : ([46] == (restB v g).toList) = false
  a : (restB v g).extract 0 1 = decB v
  b : (restB v g).extract 2 (restB v g).size = decB g
  cnt : cntL (decB g).data.toList = g
def nameFB (v g : Nat) : Bool := decide (7 ≤ (logB v g).size ∧ (logB v g).size ≤ 8) && (((logB v g).extract 0 logP.size).toList == logP.toList) && decide ((logB v g).extract logP.size (logB v g).size = restB v g) && decide (3 ≤ (restB v g).size ∧ (restB v g).size ≤ 4) && decide (firstIdx (restB v g) 46 = 1) && !([46] == (restB v g).toList) && decide ((restB v g).extract 0 1 = decB v) && decide ((restB v g).extract 2 (restB v g).size = decB g) && decide (cntL (decB g).data.toList = g)
theorem nameF_of {v g : Nat} (h : nameFB v g = true) : NameF v g := by
  unfold nameFB at h
  simp only [Bool.and_eq_true, decide_eq_true_eq, Bool.not_eq_true'] at h
  obtain ⟨⟨⟨⟨⟨⟨⟨⟨h1, h2⟩, h3⟩, h4⟩, h5⟩, h6⟩, h7⟩, h8⟩, h9⟩ := h
  exact ⟨h1, h2, h3, h4, h5, h6, h7, h8, h9⟩
theorem nameF_all : ∀ v : Fin 10, ∀ g : Fin 100, nameFB v.1 g.1 = true := by decide +kernel
def digB (g : Nat) : Bool := decide (1 ≤ (decB g).size ∧ (decB g).size ≤ 2) && ((decB g).data.toList.all fun c => decide (48 ≤ c.toNat) && decide (c.toNat ≤ 57)) && ((List.range 3).all fun j => decide (cntL ((decB g).data.toList.take j) ≤ 10000))
theorem dig_all : ∀ g : Fin 100, digB g.1 = true := by decide +kernel
theorem dig_at {g : Nat} (hg : g < 100) : 1 ≤ (decB g).size ∧ (decB g).size ≤ 2 ∧ (∀ j (h : j < (decB g).size), 48 ≤ ((decB g)[j]'h).toNat ∧ ((decB g)[j]'h).toNat ≤ 57) ∧ ∀ j, j ≤ (decB g).size → cntL ((decB g).data.toList.take j) ≤ 10000 := by
  have h := dig_all ⟨g, hg⟩
  unfold digB at h
  simp only [Bool.and_eq_true, decide_eq_true_eq] at h
  obtain ⟨⟨⟨h1, h2⟩, h3⟩, h4⟩ := h
  refine ⟨h1, h2, fun j hj => ?_, fun j hj => ?_⟩
  · have hm : (decB g)[j]'hj ∈ (decB g).data.toList := List.getElem_mem (l := (decB g).data.toList) (by rw [Array.length_toList]; exact hj)
    have := List.all_eq_true.1 h3 _ hm
    simpa using this
  · have := List.all_eq_true.1 h4 j (List.mem_range.2 (by omega))
    simpa using this
theorem nameF_at {v g : Nat} (hv : v < 10) (hg : g < 100) : NameF v g := nameF_of (nameF_all ⟨v, hv⟩ ⟨g, hg⟩)

set_option maxHeartbeats 1000000 in
theorem logName_any (v g : Nat) (w : World) (hv : v < 10) (hg : g < 100) : Calls Tryz.prog 68 #[.int .i64 (v : Int), .int .i64 (g : Int)] w fun e w' => e = .returned (.string (logB v g)) ∧ w = w' := by
  have H1 : Hid (∀ u, Calls Tryz.prog 94 #[.int .i64 (v : Int)] u fun e w' => e = .returned (.string (decB v)) ∧ u = w') := fun u => (Any.strconv_Itoa_small Tryz.laysItoaSmall v (by omega) u).mono fun _ _ h => ⟨h.1, h.2.symm⟩
  have H2 : Hid (∀ u, Calls Tryz.prog 94 #[.int .i64 (g : Int)] u fun e w' => e = .returned (.string (decB g)) ∧ u = w') := fun u => (Any.strconv_Itoa_small Tryz.laysItoaSmall g hg u).mono fun _ _ h => ⟨h.1, h.2.symm⟩
  have z1 := (dig_at (g := v) (by omega)).2.1
  have z2 := (dig_at hg).2.1
  have HR : Hid ((⟨#[108, 111, 103, 46]⟩ : ByteArray) ++ decB v ++ ⟨#[46]⟩ ++ decB g = logB v g) := rfl
  obtain ⟨a, ha⟩ : ∃ a, decB v = a := ⟨_, rfl⟩
  obtain ⟨b, hb⟩ : ∃ b, decB g = b := ⟨_, rfl⟩
  rw [ha] at H1 HR z1
  rw [hb] at H2 HR z2
  clear ha hb
  go_enter Tryz.func68, Tryz.ntmps68
  go_wp2_with (first
    | (go_at_call 94; (with_reducible refine (H1.out _).mono ?_); rintro e w1 ⟨rfl, rfl⟩)
    | (go_at_call 94; (with_reducible refine (H2.out _).mono ?_); rintro e w1 ⟨rfl, rfl⟩))
  go_ret
  exact ⟨by rw [← HR.out]; rfl, rfl⟩

set_option maxHeartbeats 1000000 in
theorem gen_log (v g : Nat) (w : World) (hv : v < 10) (hg : g < 100) : Calls Tryz.prog 59 #[.string (logB v g)] w fun e w' => e = .returned (.tuple #[.int .i64 (g : Int), .bool true]) ∧ Below w.heap.size w w' := by
  have N := nameF_at hv hg
  have D1 := dig_at (g := v) (by omega)
  have D2 := dig_at hg
  have H1 : Hid (∀ u, Calls Tryz.prog 83 #[.string (logB v g), .string logP] u fun e w' => e = .returned (.tuple #[.string (restB v g), .bool true]) ∧ u = w') := fun u => cutP_yes (by have := N.size; show 4 ≤ _; omega) N.pre N.rest
  have H2 : Hid (∀ u, Calls Tryz.prog 84 #[.string (restB v g), .string dotJ] u fun e w' => e = .returned (.tuple #[.string (decB v), .string (decB g), .bool true]) ∧ Below u.heap.size u w') := fun u => cut_yes 1 (decB v) (decB g) (by have := N.rsize; omega) N.idx N.ne (by have := N.rsize; omega) N.a N.b
  have H3 : Hid (∀ u, Calls Tryz.prog 85 #[.string (decB v)] u fun e w' => e = .returned (.bool true) ∧ Below u.heap.size u w') := fun u => digits_yes (decB v) u (by omega) D1.1 D1.2.2.1
  have H4 : Hid (∀ u, Calls Tryz.prog 85 #[.string (decB g)] u fun e w' => e = .returned (.bool true) ∧ Below u.heap.size u w') := fun u => digits_yes (decB g) u (by omega) D2.1 D2.2.2.1
  have H5 : Hid (∀ u, Calls Tryz.prog 86 #[.string (decB g)] u fun e w' => e = .returned (.int .i64 (g : Int)) ∧ Below u.heap.size u w') := fun u => by
    have := count_any (decB g) u (by omega) D2.2.2.1 D2.2.2.2
    rw [N.cnt] at this
    exact this
  obtain ⟨s, hs⟩ : ∃ s, logB v g = s := ⟨_, rfl⟩
  obtain ⟨r, hr⟩ : ∃ s, restB v g = s := ⟨_, rfl⟩
  obtain ⟨a, ha⟩ : ∃ s, decB v = s := ⟨_, rfl⟩
  obtain ⟨b, hb⟩ : ∃ s, decB g = s := ⟨_, rfl⟩
  rw [hs, hr] at H1
  rw [hr, ha, hb] at H2
  rw [ha] at H3
  rw [hb] at H4 H5
  rw [hs]
  unfold logP at H1
  clear N D1 D2 hs hr ha hb
  go_enter Tryz.func59, Tryz.ntmps59
  go_wp2_with (first
    | (go_at_call 83; (with_reducible refine (H1.out _).mono ?_); rintro e w1 ⟨rfl, rfl⟩)
    | (go_at_call 84; (with_reducible refine (H2.out _).mono ?_); rintro e w2 ⟨rfl, hb2⟩)
    | (go_at_call 85; (with_reducible refine (H3.out _).mono ?_); rintro e w3 ⟨rfl, hb3⟩)
    | (go_at_call 85; (with_reducible refine (H4.out _).mono ?_); rintro e w4 ⟨rfl, hb4⟩)
    | (go_at_call 86; (with_reducible refine (H5.out _).mono ?_); rintro e w5 ⟨rfl, hb5⟩))
  go_returns
  have t2 := hb2
  have t3 := t2.trans (hb3.mono t2.size)
  have t4 := t3.trans (hb4.mono t3.size)
  exact ⟨rfl, t4.trans (hb5.mono t4.size)⟩

def epochB : ByteArray := ⟨#[101, 112, 111, 99, 104]⟩
def epochNB : ByteArray := ⟨#[101, 112, 111, 99, 104, 46, 110, 101, 119]⟩
set_option maxHeartbeats 1000000 in
theorem gen_epoch (w : World) : Calls Tryz.prog 59 #[.string epochB] w fun e w' => e = .returned (.tuple #[.int .i64 0, .bool false]) ∧ Below w.heap.size w w' := by
  have H1 : Hid (∀ u, Calls Tryz.prog 83 #[.string epochB, .string ⟨#[108, 111, 103, 46]⟩] u fun e w' => e = .returned (.tuple #[.string epochB, .bool false]) ∧ u = w') := fun u => cutP_no (by decide) (by decide +kernel)
  have H2 : Hid (∀ u, Calls Tryz.prog 84 #[.string epochB, .string dotJ] u fun e w' => e = .returned (.tuple #[.string epochB, .string ⟨#[]⟩, .bool false]) ∧ u = w') := fun u => cut_no (by decide +kernel) (by decide +kernel)
  obtain ⟨s, hs⟩ : ∃ s, epochB = s := ⟨_, rfl⟩
  rw [hs] at H1 H2 ⊢
  clear hs
  go_enter Tryz.func59, Tryz.ntmps59
  go_wp2_with (first
    | (go_at_call 83; (with_reducible refine (H1.out _).mono ?_); rintro e w1 ⟨rfl, rfl⟩)
    | (go_at_call 84; (with_reducible refine (H2.out _).mono ?_); rintro e w2 ⟨rfl, rfl⟩))
  go_returns
  exact ⟨rfl, Below.refl _ _⟩
set_option maxHeartbeats 1000000 in
theorem gen_epochN (w : World) : Calls Tryz.prog 59 #[.string epochNB] w fun e w' => e = .returned (.tuple #[.int .i64 0, .bool false]) ∧ Below w.heap.size w w' := by
  have H1 : Hid (∀ u, Calls Tryz.prog 83 #[.string epochNB, .string ⟨#[108, 111, 103, 46]⟩] u fun e w' => e = .returned (.tuple #[.string epochNB, .bool false]) ∧ u = w') := fun u => cutP_no (by decide) (by decide +kernel)
  have H2 : Hid (∀ u, Calls Tryz.prog 84 #[.string epochNB, .string dotJ] u fun e w' => e = .returned (.tuple #[.string epochB, .string ⟨#[110, 101, 119]⟩, .bool true]) ∧ Below u.heap.size u w') := fun u => cut_yes 5 epochB ⟨#[110, 101, 119]⟩ (by decide) (by decide +kernel) (by decide +kernel) (by decide) (by decide +kernel) (by decide +kernel)
  obtain ⟨s, hs⟩ : ∃ s, epochNB = s := ⟨_, rfl⟩
  obtain ⟨a, ha⟩ : ∃ s, epochB = s := ⟨_, rfl⟩
  rw [hs] at H1 H2 ⊢
  rw [ha] at H2
  clear hs ha
  go_enter Tryz.func59, Tryz.ntmps59
  go_wp2_with (first
    | (go_at_call 83; (with_reducible refine (H1.out _).mono ?_); rintro e w1 ⟨rfl, rfl⟩)
    | (go_at_call 84; (with_reducible refine (H2.out _).mono ?_); rintro e w2 ⟨rfl, hb2⟩))
  go_returns
  exact ⟨rfl, hb2⟩
end Go.Proofs.YtigegdelhpdlhaaGreatDoor
