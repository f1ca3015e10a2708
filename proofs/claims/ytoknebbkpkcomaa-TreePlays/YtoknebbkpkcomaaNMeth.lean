/- The program's calls of a node that change nothing: New, Order, Counts, keyAt, find, Get. -/
import Derived.Test.YtoknebbkpkcomaaNHeap
import Derived.Deep.RegionHeld3
namespace Go.Proofs.Ytoknebbkpkcomaa
open Go.RowKit

theorem quiet_more {P : Program} {f : FuncId} {args : Array Value} {w : World} {m x : Nat} {v : Value}
    (h : Calls P f args (w.drewN (m + x)) fun e w' => e = .returned v ∧ ∃ k, w' = (w.drewN (m + x)).drewN k) : Calls P f args (w.drewN (m + x)) fun e w'' => e = .returned v ∧ ∃ n, w'' = w.drewN (m + n) :=
  h.mono fun _ _ ⟨he, k, hk⟩ => ⟨he, x + k, by rw [hk, World.drewN_drewN, Nat.add_assoc]⟩

theorem quiet_more_same {P : Program} {f : FuncId} {args : Array Value} {w : World} {m x : Nat} {v : Value}
    (h : Calls P f args (w.drewN (m + x)) fun e w' => e = .returned v ∧ w' = w.drewN (m + x)) : Calls P f args (w.drewN (m + x)) fun e w'' => e = .returned v ∧ ∃ n, w'' = w.drewN (m + n) :=
  h.mono fun _ _ ⟨he, hk⟩ => ⟨he, x, hk⟩

section
variable {g : Nat} {n : Nd} {w : World} {F : Nat → Prop}

theorem order_any (h : NodeI g n w F) : Calls Try.prog 55 #[.pointer (some ⟨g, 0, none⟩)] w fun e w' => e = .returned (.int .u64 n.word) ∧ w' = w := by
  obtain ⟨c0, -, -, -, -, -, -⟩ := h.cells
  clear h
  go_enter Try.func55, Try.ntmps55
  go_wp2
  go_ret
  exact ⟨rfl, rfl⟩

theorem counts_any (h : NodeI g n w F) : Calls Try.prog 43 #[.pointer (some ⟨g, 0, none⟩)] w fun e w' => e = .returned (.tuple #[.int .i64 n.ins, .int .i64 n.spl]) ∧ ∃ m, w' = w.drewN m := by
  obtain ⟨-, -, -, c31, c32, -, -⟩ := h.cells
  clear h
  go_enter Try.func43, Try.ntmps43
  go_wp2
  go_quiet (fail)
  go_wp2
  go_ret2
  exact ⟨rfl, _, rfl⟩

theorem keyAt_any (h : NodeC w g n) (ho : n.Ok) {x : Int} {i : Nat} {p : Kv} (hx : x = i) (hp : n.ks[i]? = some p) : Calls Try.prog 61 #[.pointer (some ⟨g, 0, none⟩), .int .i64 x] w fun e w' => e = .returned (.string p.1) ∧ ∃ m, w' = w.drewN m := by
  have hi := (List.getElem?_eq_some_iff.1 hp).1
  have hf := ho.few
  obtain ⟨s, e1, e2, e3⟩ := slot_of ho (j := i) (by omega)
  have c0 := h.c0
  have ck := h.ck i p hp
  rw [e3] at ck
  obtain ⟨key, hkey⟩ : ∃ key, p.1 = key := ⟨_, rfl⟩
  obtain ⟨V, hV⟩ : ∃ V, n.word = V := ⟨_, rfl⟩
  rw [hV] at c0
  rw [hkey] at ck
  have HS : Hid (∀ u : World, Calls Try.prog 50 #[.int .u64 V, .int .i64 x] u fun e w' => e = .returned (.int .i64 (s : Int)) ∧ w' = u) := fun u => by
    have := slotAt_any ho.wd hx (by omega) u
    rw [e3, hV] at this
    exact this
  have HK : Hid (p.1 = key) := hkey
  clear h hp hV hkey e1 e3 hf hi hx
  go_enter Try.func61, Try.ntmps61
  go_wp2
  go_quiet ((go_at_call 50; exact Calls.quiet_of_same (HS.out _)))
  go_wp2
  go_ret
  exact ⟨by rw [HK.out]; rfl, _, rfl⟩

theorem drewN_two (w : World) (a b : Nat) : (w.drewN a).drewN b = w.drewN (a + b) := World.drewN_drewN w a b
theorem NodeC.drewN (h : NodeC w g n) (m : Nat) : NodeC (w.drewN m) g n := ⟨h.c0, h.ck, h.cv, h.c31, h.c32, h.fz, h.lt⟩

/-- is the key at its place? -/
def isAt (k : ByteArray) (ks : List Kv) (i : Nat) : Bool := match ks[i]? with
  | some p => p.1.toList == k.toList
  | none => false
theorem isAt_yes {k : ByteArray} {ks : List Kv} {i : Nat} {v : Int} (h : ks[i]? = some (k, v)) : isAt k ks i = true := by simp [isAt, h]
theorem isAt_no {k : ByteArray} {ks : List Kv} {i : Nat} (h : ∀ v, ks[i]? ≠ some (k, v)) : isAt k ks i = false := by
  unfold isAt
  split
  · rename_i p hp
    by_cases e : p.1 = k
    · exact absurd hp (by rw [show p = (k, p.2) by rw [← e]]; exact h p.2)
    · simp only [beq_eq_false_iff_ne]
      exact fun q => e (toList_inj q)
  · rfl

set_option maxRecDepth 100000 in
theorem find_any (h : NodeC w g n) (ho : n.Ok) {k : ByteArray} {i : Nat} (ha : At k n.ks i) : Calls Try.prog 49 #[.pointer (some ⟨g, 0, none⟩), .string k] w fun e w' => e = .returned (.tuple #[.int .i64 (i : Int), .bool (isAt k n.ks i)]) ∧ ∃ m, w' = w.drewN m := by
  have c0 := h.c0
  have HN : Hid (NodeC w g n) := h
  have HO : Hid n.Ok := ho
  have HA : Hid (At k n.ks i) := ha
  have HU : Hid (∀ u : World, Calls Try.prog 60 #[.int .u64 n.word] u fun e w' => e = .returned (.int .i64 (n.ks.length : Int)) ∧ w' = u) := fun u => usedOf_any ho.wd u
  have hfew := ho.few
  have hil := ha.le
  obtain ⟨V, hV⟩ : ∃ V, n.word = V := ⟨_, rfl⟩
  rw [hV] at c0 HU
  obtain ⟨N, hN⟩ : ∃ N, n.ks.length = N := ⟨_, rfl⟩
  rw [hN] at HU hfew hil
  have HNl : Hid (n.ks.length = N) := hN
  have HKA : Hid (∀ (m j : Nat) (p : Kv), n.ks[j]? = some p → Calls Try.prog 61 #[.pointer (some ⟨g, 0, none⟩), .int .i64 (j : Int)] (w.drewN m) fun e w' => e = .returned (.string p.1) ∧ ∃ m', w' = w.drewN m') := fun m j p hp =>
    (keyAt_any (HN.out.drewN m) HO.out rfl hp).mono fun e w' ⟨h1, m', h2⟩ => ⟨h1, m + m', by rw [h2]; exact drewN_two w m m'⟩
  clear h ho ha hV hN
  go_enter Try.func49, Try.ntmps49
  go_wp2_with (go_at_call 60; go_must (refine (HU.out _).mono ?_; rintro e w ⟨rfl, rfl⟩))
  go_loopw [4] (fun v wr => ∃ j : Nat, j ≤ i ∧ v = .int .i64 j ∧ ∃ m, wr = w.drewN m) (fun v _ => i - (intOf v).toNat)
  case atStart => exact ⟨0, Nat.zero_le _, rfl, 0, rfl⟩
  case round =>
    obtain ⟨j, hj, rfl, m, rfl⟩ := hrel
    by_cases hlt : j < i
    · have hjN : j < n.ks.length := by rw [HNl.out]; omega
      have hjI : (j : Int) < (N : Int) := by omega
      obtain ⟨p, hp⟩ : ∃ p, n.ks[j]? = some p := ⟨_, List.getElem?_eq_getElem hjN⟩
      have hb : Op.bytesLess p.1.toList k.toList = true := HA.out.ahead j p hlt hp
      have HK := HKA.out m j p hp
      obtain ⟨q, hq⟩ : ∃ q, p.1 = q := ⟨_, rfl⟩
      rw [hq] at hb HK
      have HK2 : Hid (Calls Try.prog 61 #[.pointer (some ⟨g, 0, none⟩), .int .i64 (j : Int)] (w.drewN m) fun e w' => e = .returned (.string q) ∧ ∃ m', w' = w.drewN m') := HK
      clear hq HK hp hjN
      go_wp2_with (go_at_call 61; go_must (refine HK2.out.mono ?_; rintro e w1 ⟨rfl, m1, rfl⟩))
      go_roundw
      case rel => exact ⟨j + 1, by omega, by go_num, _, rfl⟩
      case measure => simp [intOf]; omega
    · obtain rfl : j = i := by omega
      by_cases hjn : j < N
      · have hjN : j < n.ks.length := by rw [HNl.out]; omega
        have hjI : (j : Int) < (N : Int) := by omega
        obtain ⟨p, hp⟩ : ∃ p, n.ks[j]? = some p := ⟨_, List.getElem?_eq_getElem hjN⟩
        have hb : Op.bytesLess p.1.toList k.toList = false := HA.out.here p hp
        have HI : Hid (isAt k n.ks j = (p.1.toList == k.toList)) := by show _ = _; unfold isAt; rw [hp]
        have HKK : Hid (∀ m, Calls Try.prog 61 #[.pointer (some ⟨g, 0, none⟩), .int .i64 (j : Int)] (w.drewN m) fun e w' => e = .returned (.string p.1) ∧ ∃ m', w' = w.drewN m') := fun m => HKA.out m j p hp
        obtain ⟨q, hq⟩ : ∃ q, p.1 = q := ⟨_, rfl⟩
        rw [hq] at hb HKK HI
        clear hq hp hjN
        go_wp2_with (go_at_call 61; go_must (refine (HKK.out _).mono ?_; rintro e w1 ⟨rfl, m1, rfl⟩))
        go_ret2
        exact ⟨by rw [HI.out]; rfl, _, rfl⟩
      · have hjI : ¬ (j : Int) < (N : Int) := by omega
        have HI : Hid (isAt k n.ks j = false) := by show _ = _; unfold isAt; rw [List.getElem?_eq_none (by rw [HNl.out]; omega)]
        go_wp2
        go_ret2
        exact ⟨by rw [HI.out]; rfl, _, rfl⟩

set_option maxRecDepth 100000 in
theorem get_yes (h : NodeI g n w F) {k : ByteArray} {i : Nat} {v : Int} (hi : n.ks[i]? = some (k, v)) : Calls Try.prog 34 #[.pointer (some ⟨g, 0, none⟩), .string k] w fun e w' => e = .returned (.tuple #[.int .i64 v, .bool true]) ∧ ∃ m, w' = w.drewN m := by
  have ho := h.ok
  have hc := h.cells
  have hf := ho.few
  have hil := (List.getElem?_eq_some_iff.1 hi).1
  obtain ⟨s, e1, e2, e3⟩ := slot_of ho (j := i) (by omega)
  have c0 := hc.c0
  have cv := hc.cv i _ hi
  rw [e3] at cv
  dsimp only at cv
  have HF : Hid (Calls Try.prog 49 #[.pointer (some ⟨g, 0, none⟩), .string k] w fun e w' => e = .returned (.tuple #[.int .i64 (i : Int), .bool true]) ∧ ∃ m, w' = w.drewN m) := by
    have := find_any hc ho (ho.at hi)
    rw [isAt_yes hi] at this
    exact this
  obtain ⟨V, hV⟩ : ∃ V, n.word = V := ⟨_, rfl⟩
  rw [hV] at c0
  have HS : Hid (∀ u : World, Calls Try.prog 50 #[.int .u64 V, .int .i64 (i : Int)] u fun e w' => e = .returned (.int .i64 (s : Int)) ∧ w' = u) := fun u => by
    have := slotAt_any ho.wd (rfl : (i : Int) = (i : Nat)) (by omega) u
    rw [e3, hV] at this
    exact this
  clear hc ho h hi hV e1 e3 hf hil
  go_enter Try.func34, Try.ntmps34
  go_wp2_with (go_at_call 49; go_must (refine HF.out.mono ?_; rintro e w1 ⟨rfl, m1, rfl⟩))
  go_quiet ((go_at_call 50; exact quiet_more_same (HS.out _)))
  go_wp2
  go_ret2
  exact ⟨rfl, _, World.drewN_drewN _ _ _⟩

theorem get_no (h : NodeI g n w F) {k : ByteArray} (hk : k ∉ n.keys) : Calls Try.prog 34 #[.pointer (some ⟨g, 0, none⟩), .string k] w fun e w' => e = .returned (.tuple #[.int .i64 0, .bool false]) ∧ ∃ m, w' = w.drewN m := by
  obtain ⟨i, ha⟩ := at_ex k n.ks
  have HF : Hid (Calls Try.prog 49 #[.pointer (some ⟨g, 0, none⟩), .string k] w fun e w' => e = .returned (.tuple #[.int .i64 (i : Int), .bool false]) ∧ ∃ m, w' = w.drewN m) := by
    have := find_any h.cells h.ok ha
    rw [isAt_no (fun v hv => hk (List.mem_map.2 ⟨_, List.mem_of_getElem? hv, rfl⟩))] at this
    exact this
  clear ha h
  go_enter Try.func34, Try.ntmps34
  go_wp2_with (go_at_call 49; go_must (refine HF.out.mono ?_; rintro e w1 ⟨rfl, m1, rfl⟩))
  go_ret2
  exact ⟨rfl, _, rfl⟩

set_option maxRecDepth 100000 in
theorem new_any (w : World) : Calls Try.prog 24 #[] w fun e w' => ∃ g F, e = .returned (.pointer (some ⟨g, 0, none⟩)) ∧ NodeI g Nd.new w' F ∧ (∀ i, F i → w.heap.size ≤ i) ∧ Below w.heap.size w w' := by
  have HE : Hid (∀ v : World, Calls Try.prog 41 #[] v fun e w' => e = .returned (.int .u64 emptyW) ∧ w' = v) := fun v => empty_any v
  obtain ⟨V, hV⟩ : ∃ V, emptyW = V := ⟨_, rfl⟩
  rw [hV] at HE
  have HV : Hid (emptyW = V) := hV
  clear hV
  go_enter Try.func24, Try.ntmps24
  go_wp2_with (go_at_call 41; go_must (refine (HE.out _).mono ?_; rintro e w1 ⟨rfl, rfl⟩))
  go_ret
  refine ⟨_, fun i => i = w1.heap.size, rfl, ⟨⟨_, heap_new _ _, rfl, ?_, fun j p hp => by simp [Nd.new] at hp, rfl, rfl, Nd.new_ok⟩, fun i => Iff.rfl⟩, fun i hi => by rw [hi]; exact Nat.le_refl _, (Below.refl _ _).alloc (Nat.le_refl _) _⟩
  rw [← HV.out]
  rfl
end

end Go.Proofs.Ytoknebbkpkcomaa
