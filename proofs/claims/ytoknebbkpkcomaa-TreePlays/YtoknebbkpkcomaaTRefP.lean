/- The document's tree: Get, Put, Take. -/
import Derived.Test.YtoknebbkpkcomaaTRefA
namespace Go.Proofs.Ytoknebbkpkcomaa
open Go.RowKit

section
variable {K : List Kv} {k : ByteArray} {v : Int} {i : Nat}
theorem plc_there (h : Rise K) (hp : K[i]? = some (k, v)) : getK k K = some v := (getK_some h).2 (List.mem_of_getElem? hp)
theorem plc_none (h : Rise K) (ha : At k K i) (hno : ∀ v, K[i]? ≠ some (k, v)) : getK k K = none := by
  rw [getK_none]
  rintro ⟨a, b⟩ hp rfl
  obtain ⟨j, hj⟩ := List.getElem?_of_mem hp
  rcases Nat.lt_trichotomy j i with h1 | h1 | h1
  · have := ha.ahead j _ h1 hj
    rw [bl_self] at this
    cases this
  · subst h1
    exact hno b hj
  · have hi : i < K.length := by have := (List.getElem?_eq_some_iff.1 hj).1; omega
    have h2 := ha.here _ (List.getElem?_eq_getElem hi)
    have h3 := rise_lt h h1 (List.getElem?_eq_getElem hi) hj
    rw [h2] at h3
    cases h3
theorem insertIdx_parts {α : Type} {x : α} : ∀ {L : List α} {i : Nat}, i ≤ L.length → L.insertIdx i x = (L.take i ++ [x]) ++ L.drop i
  | L, 0, _ => by simp
  | [], i + 1, h => by simp at h
  | y :: L, i + 1, h => by
    have := insertIdx_parts (x := x) (L := L) (i := i) (by simpa using h)
    simp [this]
theorem keys_ins (hi : i ≤ K.length) : scells (keysOf (K.insertIdx i (k, v))) = (([] ++ (scells (keysOf K)).take i) ++ [.string k]) ++ (scells (keysOf K)).drop i := by
  rw [insertIdx_parts hi]
  simp [scells, keysOf]
theorem vals_ins (hi : i ≤ K.length) : icells (valsOf (K.insertIdx i (k, v))) = (([] ++ (icells (valsOf K)).take i) ++ [.int .i64 v]) ++ (icells (valsOf K)).drop i := by
  rw [insertIdx_parts hi]
  simp [icells, valsOf]
theorem keys_del : scells (keysOf (K.eraseIdx i)) = ([] ++ (scells (keysOf K)).take i) ++ (scells (keysOf K)).drop (i + 1) := by
  rw [List.eraseIdx_eq_take_drop_succ]
  simp [scells, keysOf]
theorem vals_del : icells (valsOf (K.eraseIdx i)) = ([] ++ (icells (valsOf K)).take i) ++ (icells (valsOf K)).drop (i + 1) := by
  rw [List.eraseIdx_eq_take_drop_succ]
  simp [icells, valsOf]
theorem one_new {u : World} {x : Value} {T : TypeId} {fz : Nat × Nat} (_ : [x] ≠ []) : ∃ b off, (some ⟨u.heap.size, 0, none⟩ : Option Addr) = some ⟨b, off, none⟩ ∧ ∀ (j : Nat) y, [x][j]? = some y → (u.alloc (.cells #[x] T fz)).cell? ⟨b, off + j, none⟩ = some y := by
  refine ⟨u.heap.size, 0, rfl, fun j y hy => ?_⟩
  cases j with
  | zero =>
    simp at hy
    subst hy
    rw [cell_of (heap_new u _)]
    rfl
  | succ j => simp at hy
theorem below_al (u : World) (o : Obj) : Below u.heap.size u (u.alloc o) := (Below.refl _ _).alloc (Nat.le_refl _) _
end

section
variable {w : World} {r : Nat} {K K' : List Kv} {F : Nat → Prop} {k : ByteArray}

set_option maxRecDepth 100000 in
theorem uget_to {v : Int} {b : Bool} (hp : GetK K k v b) (h : UI r K w F) : Calls Try.prog 26 #[.pointer (some ⟨r, 0, none⟩), .string k] w fun x w' => x = .returned (.tuple #[.int .i64 v, .bool b]) ∧ Below w.heap.size w w' := by
  have hr := h.rise
  have HPl : Hid (Calls Try.prog 42 #[.pointer (some ⟨r, 0, none⟩), .string k] w fun e w' => ∃ (i : Nat) (b : Bool), e = .returned (.tuple #[.int .i64 (i : Int), .bool b]) ∧ Hid (Plc K k i b) ∧ Hid (∃ n, w' = w.drewN n)) := uplace_any h k
  obtain ⟨aK, cK, aV, cV, x1, x2, y1, y2, hc, hx, -⟩ := h.shape
  obtain ⟨N, hN⟩ : ∃ N, K.length = N := ⟨_, rfl⟩
  have HN : Hid (K.length = N) := hN
  have HR : Hid (Rise K) := hr
  have HP : Hid (GetK K k v b) := hp
  rw [hN] at y1 hc
  have HC : Hid (∀ u, Below w.heap.size w u → u.cell? ⟨r, 1, none⟩ = some (.slice aV N cV)) := fun u hu => (hc u hu).2.2.1
  have HX : Hid (∀ u, Below w.heap.size w u → ∀ (i : Nat) k v, K[i]? = some (k, v) → ∃ b off, aV = some ⟨b, off, none⟩ ∧ u.cell? ⟨b, off + i, none⟩ = some (.int .i64 v)) := fun u hu i k v hi => by
    obtain ⟨_, _, b, off, _, e, _, c⟩ := hx u hu i k v hi
    exact ⟨b, off, e, c⟩
  unfold maxLen at y2
  clear h hc hx hN hr x1 x2 hp
  go_enter Try.func26, Try.ntmps26
  go_wp2_with fail
  refine HPl.out.mono ?_
  rintro e w1 ⟨i, bb, rfl, HPc, HW⟩
  have HB : Hid (Below w.heap.size w w1) := by
    obtain ⟨n, e⟩ := HW.out
    rw [e]
    exact below_drewN w n
  clear HPl HW
  cases bb with
  | true =>
    obtain ⟨v', hv'⟩ := HPc.out.2.1 rfl
    obtain ⟨rfl, rfl⟩ : v' = v ∧ true = b := by
      have := plc_there HR.out hv'
      rcases HP.out with ⟨h1, _, _⟩ | ⟨h1, h2⟩
      · rw [this] at h1; cases h1
      · rw [this] at h1; exact ⟨Option.some.inj h1, h2.symm⟩
    have hiN : i < N := by have := (List.getElem?_eq_some_iff.1 hv').1; have := HN.out; omega
    have hiI : (i : Int) < (N : Int) := by omega
    have d0 := HC.out w1 HB.out
    obtain ⟨b, off, rfl, e0⟩ := HX.out w1 HB.out i k v' hv'
    clear hv'
    go_wp2_with fail
    go_ret2
    exact ⟨rfl, HB.out⟩
  | false =>
    obtain ⟨rfl, rfl⟩ : v = 0 ∧ b = false := by
      have := plc_none HR.out HPc.out.1 (HPc.out.2.2 rfl)
      rcases HP.out with ⟨h1, h2, h3⟩ | ⟨h1, h2⟩
      · exact ⟨h2, h3⟩
      · rw [this] at h1; cases h1
    go_wp2_with fail
    go_ret2
    exact ⟨rfl, HB.out⟩

theorem valsOf_set {K : List Kv} {i : Nat} {k : ByteArray} {v v0 : Int} (hi : K[i]? = some (k, v0)) : keysOf (K.set i (k, v)) = keysOf K ∧ icells (valsOf (K.set i (k, v))) = (icells (valsOf K)).set i (.int .i64 v) := by
  constructor
  · unfold keysOf
    rw [List.map_set]
    apply List.ext_getElem?
    intro j
    by_cases ej : i = j
    · subst ej
      rw [List.getElem?_set_self (by rw [List.length_map]; exact (List.getElem?_eq_some_iff.1 hi).1), List.getElem?_map, hi]
      rfl
    · rw [List.getElem?_set_ne ej]
  · unfold icells valsOf
    rw [List.map_set, List.map_set]

/-- another value in its place -/
theorem UI.setAt {i : Nat} {v v0 : Int} (h : UI r K w F) (hi : K[i]? = some (k, v0)) : ∃ g cV, (∀ u, Below w.heap.size w u → u.cell? ⟨r, 1, none⟩ = some (.slice (some ⟨g, 0, none⟩) K.length cV) ∧ u.cell? ⟨g, i, none⟩ = some (.int .i64 v0) ∧ u.frozen? ⟨g, i, none⟩ = false ∧ Goes (UI r (insK k v K)) w (u.setCell ⟨g, i, none⟩ (.int .i64 v)) F) ∧ K.length ≤ cV ∧ cV ≤ maxLen := by
  obtain ⟨vk, vv, h1, h2⟩ := h
  have hil := (List.getElem?_eq_some_iff.1 hi).1
  rcases h1.rv.2 with ⟨_, h0⟩ | ⟨g, cap, cur, rfl, _, hg, hnc, hcm, hs, ht⟩
  · omega
  · refine ⟨g, cap, fun u hu => ?_, hnc, hcm⟩
    have ug := (hu.block g (lt_of hg)).trans hg
    have ur := (hu.block r (lt_of h1.st)).trans h1.st
    have hgr : g ≠ r := h1.nv g rfl
    refine ⟨by rw [cell_of ur]; rfl, ?_, frozen_of ug _, ?_⟩
    · rw [cell_of ug, ← Array.getElem?_toList]
      have : (icells (valsOf K))[i]? = some (.int .i64 v0) := by simp [icells, valsOf, hi]
      rw [← ht, List.getElem?_take_of_lt (by omega)] at this
      exact this
    · have hset := insK_there (v := v) h1.rise hi
      obtain ⟨e1, e2⟩ := valsOf_set (v := v) hi
      have hl : (K.set i (k, v)).length = K.length := List.length_set ..
      rw [hset]
      refine ⟨F, ⟨vk, .slice (some ⟨g, 0, none⟩) K.length cap, ⟨?_, ?_, ?_, h1.nk, h1.nv, ?_, by rw [hl]; exact h1.few⟩, h2⟩, ?_, fun i hi => Or.inl hi⟩
      · rw [Below.heap_setCell u ⟨g, i, none⟩ _ r (fun e => hgr e.symm)]
        exact ur
      · rw [hl, e1]
        exact ownsRow_block h1.rk (fun b hb => by
          rw [Below.heap_setCell u ⟨g, i, none⟩ _ b (fun e => (h1.nk b hb).2 (by rw [e]; rfl))]
          exact hu.block b (ownsRow_lt h1.rk hb))
      · rw [hl, e2]
        have hlen : (icells (valsOf K)).length = K.length * 1 := h1.rv.1
        refine ⟨by rw [List.length_set]; exact hlen, Or.inr ⟨g, cap, cur.setIfInBounds i (.int .i64 v), rfl, Nat.zero_le _, heap_setCell_same ug i _, hnc, hcm, by rw [Array.size_setIfInBounds]; exact hs, ?_⟩⟩
        rw [Array.toList_setIfInBounds, List.take_set, ht]
      · rw [← hset]
        exact h1.rise.ins
      · exact (Turn.ofBelow F hu).trans (Turn.setCell u ⟨g, i, none⟩ _ ((h2 g).2 (Or.inr (Or.inr rfl))))

def UPutR (r : Nat) (K' : List Kv) (w : World) (F : Nat → Prop) (was : Int) (there : Bool) (e : Int) (x : Ending) (w' : World) : Prop := x = .returned (.tuple #[.int .i64 was, .bool there, .int .i64 e]) ∧ Goes (UI r K') w w' F

set_option maxRecDepth 100000 in
theorem uput_long (h : UI r K w F) (hk : 4096 < k.size) (v : Int) : Calls Try.prog 25 #[.pointer (some ⟨r, 0, none⟩), .string k, .int .i64 v] w (UPutR r K w F 0 false 2) := by
  have HI : Hid (UI r K w F) := h
  have hkI : (4096 : Int) < (k.size : Int) := by omega
  clear h
  go_enter Try.func25, Try.ntmps25
  go_wp2_with fail
  go_ret3
  exact ⟨rfl, Goes.stay HI.out⟩

set_option maxRecDepth 100000 in
set_option maxHeartbeats 1000000 in
theorem uput_there (h : UI r K w F) (hk : k.size ≤ 4096) {v v0 : Int} (hg : getK k K = some v0) : Calls Try.prog 25 #[.pointer (some ⟨r, 0, none⟩), .string k, .int .i64 v] w (UPutR r (insK k v K) w F v0 true 0) := by
  have HPl : Hid (Calls Try.prog 42 #[.pointer (some ⟨r, 0, none⟩), .string k] w fun e w' => ∃ (i : Nat) (b : Bool), e = .returned (.tuple #[.int .i64 (i : Int), .bool b]) ∧ Hid (Plc K k i b) ∧ Hid (∃ n, w' = w.drewN n)) := uplace_any h k
  have HI : Hid (UI r K w F) := h
  have HG : Hid (getK k K = some v0) := hg
  have hkI : ¬ (4096 : Int) < (k.size : Int) := by omega
  clear h hg hk
  go_enter Try.func25, Try.ntmps25
  go_wp2_with fail
  refine HPl.out.mono ?_
  rintro e w1 ⟨i, bb, rfl, HPc, HW⟩
  have HB : Hid (Below w.heap.size w w1) := by
    obtain ⟨n, e⟩ := HW.out
    rw [e]
    exact below_drewN w n
  obtain rfl : bb = true := by
    cases bb with
    | true => rfl
    | false =>
      have := plc_none HI.out.rise HPc.out.1 (HPc.out.2.2 rfl)
      rw [HG.out] at this
      cases this
  obtain ⟨v1, hv1⟩ := HPc.out.2.1 rfl
  obtain rfl : v0 = v1 := by
    have := plc_there HI.out.rise hv1
    rw [HG.out] at this
    exact Option.some.inj this
  obtain ⟨g, cV, hS, hc1, hc2⟩ := HI.out.setAt (v := v) hv1
  obtain ⟨N, hN⟩ : ∃ N, K.length = N := ⟨_, rfl⟩
  rw [hN] at hS hc1
  obtain ⟨t0, t1, t2, t3⟩ := hS w1 HB.out
  have HGo : Hid (Goes (UI r (insK k v K)) w (w1.setCell ⟨g, i, none⟩ (.int .i64 v)) F) := t3
  have hiN : i < N := by have := (List.getElem?_eq_some_iff.1 hv1).1; omega
  have hiI : (i : Int) < (N : Int) := by omega
  unfold maxLen at hc2
  clear HPl HW hS t3 hv1 hN HI HG HPc
  go_wp2_with fail
  go_ret3
  exact ⟨rfl, HGo.out⟩

set_option maxRecDepth 100000 in
set_option maxHeartbeats 1000000 in
theorem uput_full (h : UI r K w F) (hk : k.size ≤ 4096) (hg : getK k K = none) (hl : K.length = 4096) (v : Int) : Calls Try.prog 25 #[.pointer (some ⟨r, 0, none⟩), .string k, .int .i64 v] w (UPutR r K w F 0 false 2) := by
  have HPl : Hid (Calls Try.prog 42 #[.pointer (some ⟨r, 0, none⟩), .string k] w fun e w' => ∃ (i : Nat) (b : Bool), e = .returned (.tuple #[.int .i64 (i : Int), .bool b]) ∧ Hid (Plc K k i b) ∧ Hid (∃ n, w' = w.drewN n)) := uplace_any h k
  have HI : Hid (UI r K w F) := h
  have HG : Hid (getK k K = none) := hg
  have hkI : ¬ (4096 : Int) < (k.size : Int) := by omega
  obtain ⟨aK, cK, aV, cV, x1, x2, y1, y2, hc, hx, -⟩ := h.shape
  rw [hl] at hc x1
  have HC : Hid (∀ u, Below w.heap.size w u → u.cell? ⟨r, 0, none⟩ = some (.slice aK 4096 cK)) := fun u hu => (hc u hu).2.1
  unfold maxLen at x2
  clear h hg hk hc hx hl y1 y2
  go_enter Try.func25, Try.ntmps25
  go_wp2_with fail
  refine HPl.out.mono ?_
  rintro e w1 ⟨i, bb, rfl, HPc, HW⟩
  have HB : Hid (Below w.heap.size w w1) := by
    obtain ⟨n, e⟩ := HW.out
    rw [e]
    exact below_drewN w n
  obtain rfl : bb = false := by
    cases bb with
    | false => rfl
    | true =>
      obtain ⟨v1, hv1⟩ := HPc.out.2.1 rfl
      have := plc_there HI.out.rise hv1
      rw [HG.out] at this
      cases this
  have c0 := HC.out w1 HB.out
  have HGo : Hid (Goes (UI r K) w w1 F) := by
    obtain ⟨n, e⟩ := HW.out
    rw [e]
    exact Goes.drew (ui_res r K) HI.out n
  clear HPl HPc HW HI HG
  go_wp2_with fail
  go_ret3
  exact ⟨rfl, HGo.out⟩
end

end Go.Proofs.Ytoknebbkpkcomaa
