import Derived.Test.YtigegdelhpdlhaaGreatDoorJDurJ
import Derived.Sort.LotA
/- Layer 18: entries sorted by their words (at most twenty: by insertion). -/
namespace Go.Proofs.YtigegdelhpdlhaaGreatDoor
open Go.RowKit QP Go.Sort Go.Shelf Go.Lib

def cmpI (a b : Nat) : Int := if a < b then -1 else if b < a then 1 else 0
def cfE (x y : Er) : Int := cmpI x.T y.T
set_option maxHeartbeats 1000000 in
theorem jcmp_any (a b : Nat) (w : World) : Calls Tryz.prog 78 #[.int .u64 (a : Int), .int .u64 (b : Int)] w fun e w' => e = .returned (.int .i64 (cmpI a b)) ∧ w = w' := by
  have HN : Hid (∀ (x : Nat) u, Calls Tryz.prog 103 #[.int .u64 (x : Int)] u fun e w' => e = .returned (.bool false) ∧ u = w') := fun x u => by
    go_enter Tryz.func103, Tryz.ntmps103
    go_wp2
    go_ret
    exact ⟨rfl, rfl⟩
  rcases Nat.lt_trichotomy a b with h | h | h
  · have hI : (a : Int) < (b : Int) := by omega
    have hR : Hid (cmpI a b = -1) := by show _ = _; unfold cmpI; rw [if_pos h]
    go_enter Tryz.func78, Tryz.ntmps78
    go_wp2_with (go_at_call 103; (with_reducible refine (HN.out _ _).mono ?_); rintro e w1 ⟨rfl, rfl⟩)
    go_ret
    exact ⟨by rw [hR.out]; rfl, rfl⟩
  · subst h
    have hI : ¬ (a : Int) < (a : Int) := by omega
    have hR : Hid (cmpI a a = 0) := by show _ = _; unfold cmpI; rw [if_neg (by omega), if_neg (by omega)]
    go_enter Tryz.func78, Tryz.ntmps78
    go_wp2_with (go_at_call 103; (with_reducible refine (HN.out _ _).mono ?_); rintro e w1 ⟨rfl, rfl⟩)
    go_ret
    exact ⟨by rw [hR.out]; rfl, rfl⟩
  · have hI : ¬ (a : Int) < (b : Int) := by omega
    have hI2 : (b : Int) < (a : Int) := by omega
    have hR : Hid (cmpI a b = 1) := by show _ = _; unfold cmpI; rw [if_neg (by omega), if_pos h]
    go_enter Tryz.func78, Tryz.ntmps78
    go_wp2_with (go_at_call 103; (with_reducible refine (HN.out _ _).mono ?_); rintro e w1 ⟨rfl, rfl⟩)
    go_ret
    exact ⟨by rw [hR.out]; rfl, rfl⟩

set_option maxHeartbeats 1000000 in
theorem jload1_any (x y : Er) (W : World) : Calls Tryz.prog 77 #[.agg (enE x).toArray, .agg (enE y).toArray] W fun e w' => e = .returned (.int .i64 (cfE x y)) ∧ ∃ q os', w' = grow (W.drewN q) os' := by
  have hcon : Hid (∀ u, Calls Tryz.prog 78 #[.int .u64 (x.T : Int), .int .u64 (y.T : Int)] u fun e w' => e = .returned (.int .i64 (cfE x y)) ∧ u = w') := fun u => jcmp_any x.T y.T u
  obtain ⟨r, hr⟩ : ∃ r, cfE x y = r := ⟨_, rfl⟩
  rw [hr] at hcon ⊢
  show Calls Tryz.prog 77 #[.agg #[.int .u64 (x.T : Int), .slice (some ⟨x.g, 0, none⟩) 1 1], .agg #[.int .u64 (y.T : Int), .slice (some ⟨y.g, 0, none⟩) 1 1]] W _
  clear hr
  go_enter Tryz.func77, Tryz.ntmps77
  go_wp2_with (go_at_call 78; (with_reducible refine (hcon.out _).mono ?_); rintro e w1 ⟨rfl, rfl⟩)
  go_ret
  exact ⟨rfl, 0, _, by rw [alloc_eq_grow, alloc_eq_grow, grow_grow]; rfl⟩

theorem flatK_flat (L : List Er) : (flatK enE 2 L.toArray).toList = flat enE L := by
  apply List.ext_getElem?
  intro t
  by_cases ht : t < L.length * 2
  · have hi : t / 2 < L.length := by omega
    have h1 := flat_get enE_len L (t / 2) hi (t % 2) (by omega)
    rw [show 2 * (t / 2) + t % 2 = t by omega] at h1
    rw [h1, Array.getElem?_toList]
    have hsz : t < (flatK enE 2 L.toArray).size := by rw [size_flatK]; simpa using ht
    have h2 := get_flatK enE 2 L.toArray t (by simpa using ht)
    rw [getElem!_pos _ t hsz] at h2
    rw [Array.getElem?_eq_getElem hsz, h2]
    have e1 : L.toArray[t / 2]! = L[t / 2] := by simp [hi]
    rw [e1]
    have hl : t % 2 < (enE L[t / 2]).length := by rw [enE_len]; omega
    rw [List.getElem?_eq_getElem hl, getElem!_pos (enE L[t / 2]) (t % 2) hl]
  · rw [List.getElem?_eq_none (by rw [Array.length_toList, size_flatK]; simp; omega), List.getElem?_eq_none (by rw [flat_length enE_len]; omega)]

/-- the row of a slice of entries -/
def RowE (w : World) (blk cap : Nat) (L : List Er) : Prop := ∃ cur, w.heap[blk]? = some (.cells cur 42 (0, 0)) ∧ cur.size = cap * 2 ∧ L.length ≤ cap ∧ cur.toList.take (L.length * 2) = flat enE L
theorem RowE.holds {w : World} {blk cap : Nat} {L : List Er} (h : RowE w blk cap L) : HoldsK enE 2 w blk 0 L.toArray := by
  obtain ⟨cur, h1, h2, h3, h4⟩ := h
  intro j hj
  rw [size_flatK] at hj
  have hj2 : j < L.length * 2 := by simpa using hj
  refine ⟨?_, by rw [Nat.zero_add]; exact frozen_of h1 j⟩
  rw [Nat.zero_add, cell_of h1]
  have h5 : (cur.toList.take (L.length * 2))[j]? = (flat enE L)[j]? := by rw [h4]
  rw [List.getElem?_take_of_lt hj2, ← flatK_flat, Array.getElem?_toList, Array.getElem?_toList] at h5
  have hsz : j < (flatK enE 2 L.toArray).size := by rw [size_flatK]; exact hj
  rw [h5, Array.getElem?_eq_getElem hsz, getElem!_pos _ j hsz]
  rfl
theorem heap_sortK {w : World} {blk m : Nat} {os : Array Obj} {cur : Array Value} {e : TypeId} {fr : Nat × Nat} (d : Array Er) (hb : w.heap[blk]? = some (.cells cur e fr)) :
    (sortWorldK enE 2 w blk 0 m d os).heap[blk]? = some (.cells (putCells id 0 (flatK enE 2 d) cur) e fr) := by
  have hg : blk < w.heap.size := (Array.getElem?_eq_some_iff.1 hb).1
  unfold sortWorldK putRowK
  rw [heap_grow_old _ _ (by simpa using hg)]
  simp [putRow, mapBlock, Sort.ahead, Array.getElem?_modify, hb, onCells]
theorem turn_sortK {w : World} {blk m : Nat} {os : Array Obj} (d : Array Er) : Turn (fun i => i = blk) w (sortWorldK enE 2 w blk 0 m d os) := by
  refine ⟨rfl, rfl, rfl, by simp [sortWorldK, putRowK], fun k hk hne => ?_⟩
  unfold sortWorldK putRowK
  rw [heap_grow_old _ _ (by simpa using hk)]
  have : blk ≠ k := fun e => hne e.symm
  simp [putRow, mapBlock, Sort.ahead, Array.getElem?_modify, this]
theorem RowE.sort {w : World} {blk cap m : Nat} {os : Array Obj} {L ys : List Er} (h : RowE w blk cap L) (hy : ys.length = L.length) : RowE (sortWorldK enE 2 w blk 0 m ys.toArray os) blk cap ys := by
  obtain ⟨cur, h1, h2, h3, h4⟩ := h
  refine ⟨_, heap_sortK ys.toArray h1, by simpa [putCells] using h2, by omega, ?_⟩
  apply List.ext_getElem?
  intro j
  by_cases hj : j < ys.length * 2
  · rw [List.getElem?_take_of_lt hj, Array.getElem?_toList]
    have hjc : j < cur.size := by omega
    have hsz : j < (flatK enE 2 ys.toArray).size := by rw [size_flatK]; simpa using hj
    simp only [putCells, Array.getElem?_mapIdx, Array.getElem?_eq_getElem hjc, Option.map_some]
    rw [if_pos (by omega), ← flatK_flat, Array.getElem?_toList, Array.getElem?_eq_getElem hsz, Nat.sub_zero, getElem!_pos _ j hsz]
    rfl
  · rw [List.getElem?_eq_none (by rw [List.length_take]; omega), List.getElem?_eq_none (by rw [flat_length enE_len]; omega)]

theorem ltE (x y : Er) : ltOf cfE x y = decide (x.T < y.T) := by
  unfold ltOf cfE cmpI
  by_cases h1 : x.T < y.T
  · simp [h1]
  · rw [if_neg h1]
    by_cases h2 : y.T < x.T
    · simp [h1, h2]
    · simp [h1, h2]
theorem cfE_swo : SWO (ltOf cfE) := by
  refine ⟨fun x => ?_, fun x y z h1 h2 => ?_, fun x y z h1 h2 => ?_⟩
  · rw [ltE]; simp
  · rw [ltE] at h1 h2 ⊢
    simp only [decide_eq_true_eq] at *
    omega
  · rw [ltE] at h1 h2 ⊢
    simp only [decide_eq_false_iff_not] at *
    omega
def sortE (L : List Er) : List Er := (Sort.insertionSort (ltOf cfE) L.toArray 0 L.length).toList
theorem sortE_facts (L : List Er) : (sortE L).length = L.length ∧ (sortE L).Perm L ∧ (sortE L).Pairwise (fun a b => a.T ≤ b.T) := by
  have h := insertionSort_holds (lt := ltOf cfE) cfE_swo L.toArray 0 L.length (Nat.zero_le _) (by simp)
  obtain ⟨⟨h1, h2, h3⟩, h4⟩ := h
  have hlen : (sortE L).length = L.length := by unfold sortE; rw [Array.length_toList, h1]; simp
  refine ⟨hlen, ?_, ?_⟩
  · have e1 : (L.toArray.extract 0 L.length).toList = L := by simp
    have e2 : ((Sort.insertionSort (ltOf cfE) L.toArray 0 L.length).extract 0 L.length).toList = sortE L := by
      unfold sortE
      rw [Array.toList_extract]
      simp only [List.extract_eq_take_drop, List.drop_zero, Nat.sub_zero]
      exact List.take_of_length_le (by rw [Array.length_toList, h1]; simp)
    rw [e1, e2] at h3
    exact h3
  · rw [List.pairwise_iff_getElem]
    intro i j hi hj hij
    have h5 := h4 i j (Nat.zero_le _) hij (by rw [← hlen]; exact hj)
    rw [ltE] at h5
    have ei : (Sort.insertionSort (ltOf cfE) L.toArray 0 L.length)[i]! = (sortE L)[i] := by
      rw [getElem!_pos _ i (by rw [h1]; simp; omega)]
      rfl
    have ej : (Sort.insertionSort (ltOf cfE) L.toArray 0 L.length)[j]! = (sortE L)[j] := by
      rw [getElem!_pos _ j (by rw [h1]; simp; omega)]
      rfl
    rw [ei, ej] at h5
    have h6 := of_decide_eq_false h5
    omega

set_option maxHeartbeats 1000000 in
theorem jins_any (blk cap a b : Nat) (L : List Er) (w : World) (h : RowE w blk cap L) (hab : a ≤ b) (hb : b ≤ L.length) (hL : L.length ≤ 1000) :
    Calls Tryz.prog 125 #[.slice (some ⟨blk, 0, none⟩) L.length cap, .int .i64 (a : Int), .int .i64 (b : Int), .func (.func 77) #[] #[]] w fun e w' => e = .returned (.tuple #[]) ∧ ∃ n os, w' = sortWorldK enE 2 w blk 0 n (Sort.insertionSort (ltOf cfE) L.toArray a b) os := by
  have eg : ∀ args w, (callFunc 77 args).run Tryz.prog w = .ok (.enter 77 args) w := enters_of Tryz.func77 (by kernel_rfl) rfl
  have hblk : blk < w.heap.size := by obtain ⟨cur, h1, _⟩ := h; exact lt_of h1
  have hcmp : CmpLays Tryz.prog 77 #[] enE 2 cfE blk 0 L.toArray.size w := fun _ _ _ _ x y => jload1_any x y _
  have hcon := AnyQ.insertionSortCmpFunc Tryz.laysIns 2 Tryz.isAgg42 Tryz.sizeOf42 enE enE_len (fun x v hv => by simp [enE] at hv; rcases hv with rfl | rfl <;> rfl) cfE 77 #[] blk 0 cap a b L.toArray w eg hcmp h.holds hblk hab (by simpa using hb) (by simp; omega)
  have e : L.toArray.size = L.length := by simp
  rw [e] at hcon
  exact hcon

theorem ins_none (d : Array Er) (n : Nat) : Sort.insertionSort (ltOf cfE) d n n = d := by
  unfold Sort.insertionSort
  rw [Sort.insOuter, if_neg (by omega)]
theorem sortE_row {w : World} {blk cap n : Nat} {os : Array Obj} {L : List Er} (h : RowE w blk cap L) : RowE (sortWorldK enE 2 w blk 0 n (Sort.insertionSort (ltOf cfE) L.toArray 0 L.length) os) blk cap (sortE L) := by
  have h1 := h.sort (m := n) (os := os) (ys := sortE L) (sortE_facts L).1
  unfold sortE at h1 ⊢
  rw [Array.toArray_toList] at h1
  exact h1

set_option maxRecDepth 100000 in
set_option maxHeartbeats 1000000 in
theorem jstable_any (blk cap : Nat) (L : List Er) (w : World) (h : RowE w blk cap L) (hL : L.length ≤ 20) :
    Calls Tryz.prog 76 #[.slice (some ⟨blk, 0, none⟩) L.length cap, .func (.func 77) #[] #[]] w fun e w' => e = .returned (.tuple #[]) ∧ Hid (RowE w' blk cap (sortE L)) ∧ Hid (Turn (fun i => i = blk) w w') := by
  have hCap : Hid (L.length ≤ cap) := by obtain ⟨cur, _, _, h3, _⟩ := h; exact h3
  have HS : Hid (Calls Tryz.prog 102 #[.slice (some ⟨blk, 0, none⟩) L.length cap, .int .i64 (L.length : Int), .func (.func 77) #[] #[]] w fun e w' => e = .returned (.tuple #[]) ∧ Hid (RowE w' blk cap (sortE L)) ∧ Hid (Turn (fun i => i = blk) w w')) := by
    have H1 : Hid (Calls Tryz.prog 125 #[.slice (some ⟨blk, 0, none⟩) L.length cap, .int .i64 0, .int .i64 (L.length : Int), .func (.func 77) #[] #[]] w fun e w' => e = .returned (.tuple #[]) ∧ Hid (RowE w' blk cap (sortE L)) ∧ Hid (Turn (fun i => i = blk) w w')) := by
      refine (jins_any blk cap 0 L.length L w h (Nat.zero_le _) (Nat.le_refl _) (by omega)).mono ?_
      rintro e w' ⟨e1, n, os, rfl⟩
      exact ⟨e1, sortE_row h, turn_sortK _⟩
    have H2 : Hid (∀ u, RowE u blk cap (sortE L) → Calls Tryz.prog 125 #[.slice (some ⟨blk, 0, none⟩) L.length cap, .int .i64 (L.length : Int), .int .i64 (L.length : Int), .func (.func 77) #[] #[]] u fun e w' => e = .returned (.tuple #[]) ∧ Hid (RowE w' blk cap (sortE L)) ∧ Hid (Turn (fun i => i = blk) u w')) := fun u hu => by
      have hl := (sortE_facts L).1
      have := jins_any blk cap (sortE L).length (sortE L).length (sortE L) u hu (Nat.le_refl _) (Nat.le_refl _) (by omega)
      rw [hl] at this
      refine this.mono ?_
      rintro e w' ⟨e1, n, os, rfl⟩
      rw [ins_none]
      exact ⟨e1, hu.sort rfl, turn_sortK _⟩
    obtain ⟨n, hn⟩ : ∃ n, L.length = n := ⟨_, rfl⟩
    rw [hn] at H1 H2 hL ⊢
    clear hn hCap h
    by_cases h20 : n = 20
    · subst h20
      rw [show ((20 : Nat) : Int) = 20 from rfl] at H1 H2 ⊢
      go_enter Tryz.func102, Tryz.ntmps102
      go_wp2_with fail
      refine wp_loop_rounds 2 ?_
      rw [rounds_succ]
      go_wp2_with (go_at_call 125; (with_reducible refine H1.out.mono ?_); rintro e w1 ⟨rfl, K1, K2⟩; have H3 := H2.out w1 K1.out; clear H1)
      rw [rounds_succ]
      go_wp2_with (go_at_call 125; (with_reducible refine H3.mono ?_); rintro e w2 ⟨rfl, K3, K4⟩; clear H3)
      refine wp_loop_rounds 1 ?_
      rw [rounds_succ]
      go_wp2_with fail
      go_end0
      exact ⟨rfl, K3, K2.out.trans K4.out⟩
    · have hI : ¬ (20 : Int) ≤ (n : Int) := by omega
      have hI2 : ¬ (20 : Int) < (n : Int) := by omega
      go_enter Tryz.func102, Tryz.ntmps102
      go_wp2_with fail
      refine wp_loop_rounds 1 ?_
      rw [rounds_succ]
      go_wp2_with (go_at_call 125; (with_reducible refine H1.out.mono ?_); rintro e w1 ⟨rfl, K1, K2⟩; clear H1)
      refine wp_loop_rounds 1 ?_
      rw [rounds_succ]
      go_wp2_with fail
      go_end0
      exact ⟨rfl, K1, K2⟩
  obtain ⟨n, hn⟩ : ∃ n, L.length = n := ⟨_, rfl⟩
  rw [hn] at HS ⊢
  clear hn hCap h hL
  go_enter Tryz.func76, Tryz.ntmps76
  go_wp2_with (go_at_call 102; (with_reducible refine HS.out.mono ?_); rintro e w1 ⟨rfl, K1, K2⟩)
  go_end0
  exact ⟨rfl, K1, K2⟩
end Go.Proofs.YtigegdelhpdlhaaGreatDoor

/- Layer 18: a disk of logs, in plain words; a slice of entries put behind another one. -/
namespace Go.Proofs.YtigegdelhpdlhaaGreatDoor
open Go.RowKit QP

theorem getL_of_mem {α : Type} {l : List (List UInt8 × α)} (h : Dk.Rise l) {p : List UInt8 × α} (hp : p ∈ l) : Dk.getL p.1 l = some p.2 := by
  induction l with
  | nil => cases hp
  | cons y r ih =>
    obtain ⟨h1, h2⟩ := List.pairwise_cons.1 h
    unfold Dk.getL
    rcases List.mem_cons.1 hp with rfl | hp
    · rw [if_pos (by simp)]
    · have h3 := h1 p hp
      have hne : (y.1 == p.1) = false := by
        rw [beq_eq_false_iff_ne]
        intro e
        rw [e, WideAt.bytes_irrefl] at h3
        cases h3
      rw [if_neg (by rw [hne]; decide)]
      exact ih h2 hp
def isLogK (k : List UInt8) : Bool := decide (k.take 4 = [108, 111, 103, 46])
def genK (k : List UInt8) : Nat := cntL (k.drop 6)
/-- which names the files of such a disk bear -/
def NameOkW (k : List UInt8) : Prop := k = epochB.data.toList ∨ k = epochNB.data.toList ∨ ∃ v g, v < 10 ∧ g < 100 ∧ k = (logB v g).data.toList
theorem logK_all : ∀ v : Fin 10, ∀ g : Fin 100, (isLogK (logB v.1 g.1).data.toList && decide (genK (logB v.1 g.1).data.toList = g.1) && Dk.okName (logB v.1 g.1).data.toList) = true := by decide +kernel
theorem logK_at {v g : Nat} (hv : v < 10) (hg : g < 100) : isLogK (logB v g).data.toList = true ∧ genK (logB v g).data.toList = g ∧ Dk.okName (logB v g).data.toList = true := by
  have h := logK_all ⟨v, hv⟩ ⟨g, hg⟩
  simp only [Bool.and_eq_true, decide_eq_true_eq] at h
  exact ⟨h.1.1, h.1.2, h.2⟩
theorem logK_epoch : isLogK epochB.data.toList = false ∧ isLogK epochNB.data.toList = false ∧ Dk.okName epochB.data.toList = true ∧ Dk.okName epochNB.data.toList = true := by decide +kernel
theorem NameOkW.ok {k : List UInt8} (h : NameOkW k) : Dk.okName k = true := by
  rcases h with rfl | rfl | ⟨v, g, hv, hg, rfl⟩
  · exact logK_epoch.2.2.1
  · exact logK_epoch.2.2.2
  · exact (logK_at hv hg).2.2
/-- what a name tells -/
theorem jgen_any (k : List UInt8) (h : NameOkW k) (w : World) : Calls Tryz.prog 59 #[.string ⟨k.toArray⟩] w fun e w' => e = .returned (.tuple #[.int .i64 ((if isLogK k then genK k else 0 : Nat) : Int), .bool (isLogK k)]) ∧ Below w.heap.size w w' := by
  rcases h with rfl | rfl | ⟨v, g, hv, hg, rfl⟩
  · rw [logK_epoch.1]
    exact gen_epoch w
  · rw [logK_epoch.2.1]
    exact gen_epochN w
  · rw [(logK_at hv hg).1, (logK_at hv hg).2.1]
    exact gen_log v g w hv hg

/-- a disk of logs: its files' frames (LF: of each log its entries; Es: the marks) -/
structure WalD (s : Dk.Dsk) (t k : ByteArray) (LF : List UInt8 → List (Nat × Nat)) (Es : List Nat) : Prop where
  rise : Dk.Rise s.fs
  names : ∀ p ∈ s.fs, NameOkW p.1
  logs : ∀ p ∈ s.fs, isLogK p.1 = true → ∃ T, TornF T ∧ p.2.data = flatF ((LF p.1).map (bodyN t k)) ++ T ∧ p.2.data.length ≤ 300000 ∧ (LF p.1).length ≤ 1000 ∧ ∀ q ∈ LF p.1, TidOk q.1 ∧ q.2 < 9223372036854775808
  marks : ∃ T, TornF T ∧ Dk.readV s epochB.data.toList = flatF (Es.map markN) ++ T ∧ (flatF (Es.map markN) ++ T).length ≤ 1000000 ∧ RiseE Es ∧ ∀ e ∈ Es, e ≤ 2147483648
/-- what is loaded of some of the files, one behind the other -/
def allE (D : Nat) (LF : List UInt8 → List (Nat × Nat)) (ks : List (List UInt8)) : List (Nat × Nat) := ks.flatMap fun k => if isLogK k then upTo D (LF k) else []
theorem allE_next {D : Nat} {LF : List UInt8 → List (Nat × Nat)} {ks : List (List UInt8)} {j : Nat} (h : j < ks.length) : allE D LF (ks.take (j + 1)) = allE D LF (ks.take j) ++ (if isLogK ks[j] then upTo D (LF ks[j]) else []) := by
  unfold allE
  rw [List.take_succ_eq_append_getElem h, List.flatMap_append]
  simp
theorem readV_mem {s : Dk.Dsk} (hr : Dk.Rise s.fs) {p : List UInt8 × Dk.Fil} (hp : p ∈ s.fs) (hn : Dk.okName p.1 = true) : Dk.readV s p.1 = p.2.data := by
  have hg := getL_of_mem hr hp
  unfold Dk.readV Dk.findE
  rw [if_pos (by rw [if_pos hn, hg]; rfl), hg]
  rfl

/-- a slice of entries behind another one -/
theorem wpList_ents {w : World} {ops : Array Oper} {rest : List Oper} {o : Oper} {a : Act} {Q : Exit → Act → World → Prop} (hgd : o.guard = none) (sl x : Operand)
    (ho : o.op = .call { callee := .builtin .append, args := #[sl, x], argTypes := #[38, 38] })
    (base : Nat) (t k : ByteArray) (v v2 : Value) (L R : List Er) (hs : a.eval sl = v) (hown : EntsO w base t k v L) (hx : a.eval x = v2) (h2 : EntsO w base t k v2 R) (hd : ∀ e ∈ R, v.ownBlock ≠ some e.g ∧ v.ownBlock ≠ some e.x) (hL : L.length + R.length ≤ 100000) (hbase : base ≤ w.heap.size)
    (h : ∀ v' w', Hid (EntsO w' base t k v' (L ++ R)) → Hid (Turn (fun i => v.ownBlock = some i) w w') → wpList Tryz.prog ops Q rest (a.put o.dst v') w') : wpList Tryz.prog ops Q (o :: rest) a w := by
  obtain ⟨i0, hi, hz0, hz1, hz2⟩ := infoEn
  rcases h2.row.2 with ⟨e2, hl⟩ | ⟨g, cap, cur, e2, hg, hh, r1, r2, r3, r4⟩
  · subst e2
    have hR : R = [] := List.eq_nil_of_length_eq_zero hl
    subst hR
    refine wpList_append_own_none hgd sl x 38 ho base 42 i0 2 Tryz.underlying38 hi v L.length (flat enE L) hs hown.row hx (h v w ?_ (Turn.refl _ _))
    show EntsO _ _ _ _ _ _
    rw [List.append_nil]
    exact hown
  · subst e2
    refine wpList_append_own_at _ hgd sl x 38 ho base 42 i0 (.agg #[.int .u64 0, .slice none 0 0]) 2 32 Tryz.underlying38 hi hz0 hz1 hz2 rfl (by decide) v L.length (flat enE L) hs hown.row ⟨g, 0, none⟩ R.length cap (flat enE R) hx (by rw [flat_length enE_len, Nat.mul_comm]) (fun j u hu => ?_) (fun u hu => ?_) (by unfold maxLen; omega) (by omega) hbase (fun v' w' k1 k2 _ k4 => ?_)
    · exact World.ownsRow.cells h2.row (g := g) rfl j u hu
    · obtain ⟨e, -, he⟩ := List.mem_flatMap.1 hu
      unfold enE at he
      simp only [List.mem_cons, List.not_mem_nil, or_false] at he
      rcases he with rfl | rfl <;> rfl
    · have hT : Turn (fun i => v.ownBlock = some i) w w' := Turn.ofGrown k2 fun k hk => hk
      refine h v' w' ⟨?_, fun f hf => ?_⟩ hT
      · rw [List.length_append, flat_append]
        exact k1
      · have key : ∀ f : Er, (w.heap[f.g]? = some (boxJ t k f.x) ∧ OneAt w f.x 2 (f.n : Int) ByteArray.empty ∧ base ≤ f.g ∧ base ≤ f.x) → v.ownBlock ≠ some f.g → v.ownBlock ≠ some f.x → w'.heap[f.g]? = some (boxJ t k f.x) ∧ OneAt w' f.x 2 (f.n : Int) ByteArray.empty ∧ base ≤ f.g ∧ base ≤ f.x ∧ v'.ownBlock ≠ some f.g ∧ v'.ownBlock ≠ some f.x := by
          intro f ⟨h1, h2, h3, h4⟩ h5 h6
          refine ⟨(hT.block _ (lt_of h1) h5).trans h1, oneAt_turn h2 hT h6, h3, h4, ?_, ?_⟩
          · intro e1
            rcases k4 with h | h
            · exact h5 (h ▸ e1)
            · rw [h] at e1
              have := lt_of h1
              simp only [Option.some.injEq] at e1
              omega
          · intro e1
            rcases k4 with h | h
            · exact h6 (h ▸ e1)
            · rw [h] at e1
              have := h2.1
              simp only [Option.some.injEq] at e1
              omega
        rcases List.mem_append.1 hf with hf | hf
        · obtain ⟨q1, q2, q3, q4, q5, q6⟩ := hown.ent f hf
          exact key f ⟨q1, q2, q3, q4⟩ q5 q6
        · obtain ⟨q1, q2, q3, q4, q5, q6⟩ := h2.ent f hf
          exact key f ⟨q1, q2, q3, q4⟩ (hd f hf).1 (hd f hf).2
end Go.Proofs.YtigegdelhpdlhaaGreatDoor

/- Layer 18: wal.load of a disk of logs (at most twenty entries). -/
namespace Go.Proofs.YtigegdelhpdlhaaGreatDoor
open Go.RowKit QP

set_option maxHeartbeats 1000000 in
theorem jstable_nil (w : World) : Calls Tryz.prog 76 #[.slice none 0 0, .func (.func 77) #[] #[]] w fun e w' => e = .returned (.tuple #[]) ∧ w = w' := by
  have HI : Hid (∀ u, Calls Tryz.prog 125 #[.slice none 0 0, .int .i64 0, .int .i64 0, .func (.func 77) #[] #[]] u fun e w' => e = .returned (.tuple #[]) ∧ u = w') := fun u => by
    go_enter Tryz.func125, Tryz.ntmps125
    go_wp2_with fail
    refine wp_loop_rounds 1 ?_
    rw [rounds_succ]
    go_wp2_with fail
    go_end0
    exact ⟨rfl, rfl⟩
  have HS : Hid (∀ u, Calls Tryz.prog 102 #[.slice none 0 0, .int .i64 0, .func (.func 77) #[] #[]] u fun e w' => e = .returned (.tuple #[]) ∧ u = w') := fun u => by
    go_enter Tryz.func102, Tryz.ntmps102
    go_wp2_with fail
    refine wp_loop_rounds 1 ?_
    rw [rounds_succ]
    go_wp2_with (go_at_call 125; (with_reducible refine (HI.out _).mono ?_); rintro e w1 ⟨rfl, rfl⟩)
    refine wp_loop_rounds 1 ?_
    rw [rounds_succ]
    go_wp2_with fail
    go_end0
    exact ⟨rfl, rfl⟩
  go_enter Tryz.func76, Tryz.ntmps76
  go_wp2_with (go_at_call 102; (with_reducible refine (HS.out _).mono ?_); rintro e w1 ⟨rfl, rfl⟩)
  go_end0
  exact ⟨rfl, rfl⟩

/-- sorted: a slice of entries of its own -/
theorem jsort_any (base : Nat) (t k : ByteArray) (v : Value) (R : List Er) (w : World) (h : EntsO w base t k v R) (hR : R.length ≤ 20) :
    Calls Tryz.prog 76 #[v, .func (.func 77) #[] #[]] w fun e w' => e = .returned (.tuple #[]) ∧ Hid (EntsO w' base t k v (sortE R)) ∧ Hid (Turn (fun i => base ≤ i) w w') := by
  have hl := (sortE_facts R).1
  have hp := (sortE_facts R).2.1
  rcases h.row.2 with ⟨e2, hl0⟩ | ⟨g, cap, cur, e2, hg, hh, r1, r2, r3, r4⟩
  · subst e2
    have hR0 : R = [] := List.eq_nil_of_length_eq_zero hl0
    subst hR0
    have hs : sortE [] = [] := List.eq_nil_of_length_eq_zero hl
    rw [hs]
    refine (jstable_nil w).mono fun e w' ⟨e1, e2⟩ => ?_
    subst e2
    exact ⟨e1, h, Turn.refl _ _⟩
  · subst e2
    refine (jstable_any g cap R w ⟨cur, hh, r3, r1, r4⟩ hR).mono fun e w' ⟨e1, e3, e4⟩ => ⟨e1, ⟨⟨?_, Or.inr ?_⟩, fun f hf => ?_⟩, e4.out.mono fun i hi => by omega⟩
    · rw [flat_length enE_len, Nat.mul_comm]
    · obtain ⟨cur', q1, q2, q3, q4⟩ := e3.out
      exact ⟨g, cap, cur', by rw [hl], hg, q1, by omega, r2, q2, q4⟩
    · obtain ⟨q1, q2, q3, q4, q5, q6⟩ := h.ent f (hp.mem_iff.1 hf)
      have n1 : f.g ≠ g := fun e => q5 (by rw [e]; rfl)
      have n2 : f.x ≠ g := fun e => q6 (by rw [e]; rfl)
      exact ⟨(e4.out.block _ (lt_of q1) n1).trans q1, oneAt_turn q2 e4.out n2, q3, q4, q5, q6⟩

set_option maxRecDepth 100000 in
set_option maxHeartbeats 2000000 in
theorem jload_any (d : Nat) (s : Dk.Dsk) (t k : ByteArray) (LF : List UInt8 → List (Nat × Nat)) (Es : List Nat) (w : World) (F : Nat → Prop) (h : DiskI d s w F) (hw : WalD s t k LF Es) (ht : t.size ≤ 100) (hk : k.size ≤ 100) (h20 : (allE (lastE Es) LF (Dk.keysL s.fs)).length ≤ 20) :
    Calls Tryz.prog 46 #[.pointer (some ⟨d, 0, none⟩)] w fun e w' => ∃ v, e = .returned (.tuple #[v, .int .i64 ((lastE Es : Nat) : Int)]) ∧ ∃ R, Hid (EntsO w' w.heap.size t k v (sortE R)) ∧ Hid (R.map Er.tn = allE (lastE Es) LF (Dk.keysL s.fs)) ∧ Hid (Below w.heap.size w w') := by
  obtain ⟨T, m1, m2, m3, m4, m5⟩ := hw.marks
  have HDu : Hid (∀ u, Below w.heap.size w u → Calls Tryz.prog 74 #[.pointer (some ⟨d, 0, none⟩)] u fun e w' => e = .returned (.int .i64 ((lastE Es : Nat) : Int)) ∧ Below u.heap.size u w') := fun u hu =>
    jdurable_any d s u F ((DiskI.res d s).kept (S := fun _ => False) h (Turn.ofBelow _ hu) (fun _ _ h => h)) Es T m1 m2 m3 m4 m5
  obtain ⟨D, hD⟩ : ∃ D, lastE Es = D := ⟨_, rfl⟩
  obtain ⟨KS, hKS⟩ : ∃ KS, Dk.keysL s.fs = KS := ⟨_, rfl⟩
  obtain ⟨N, hN⟩ : ∃ N, s.fs.length = N := ⟨_, rfl⟩
  have HKl : Hid (KS.length = N) := by show _ = _; rw [← hKS, ← hN]; simp [Dk.keysL]
  have HKn : Hid (∀ q ∈ KS, NameOkW q) := fun q hq => by
    rw [← hKS] at hq
    obtain ⟨p, hp, rfl⟩ := List.mem_map.1 hq
    exact hw.names p hp
  rw [hD] at HDu h20
  have HUp : Hid (∀ (q : List UInt8) u, q ∈ KS → isLogK q = true → Below w.heap.size w u → Calls Tryz.prog 75 #[.int .i64 (D : Int), .pointer (some ⟨d, 0, none⟩), .string ⟨q.toArray⟩] u fun e w' => ∃ v, e = .returned v ∧ ∃ R, Hid (EntsO w' u.heap.size t k v R) ∧ Hid (R.map Er.tn = upTo D (LF q)) ∧ Hid (Below u.heap.size u w')) := fun q u hq hlog hu => by
    rw [← hKS] at hq
    obtain ⟨p, hp, rfl⟩ := List.mem_map.1 hq
    obtain ⟨T2, l1, l2, l3, l4, l5⟩ := hw.logs p hp hlog
    have hok := (hw.names p hp).ok
    have hlen : p.1.length ≤ 32 := by
      unfold Dk.okName at hok
      simp only [Bool.and_eq_true, decide_eq_true_eq] at hok
      exact hok.1.2
    have hrv : Dk.readV s (⟨p.1.toArray⟩ : ByteArray).data.toList = flatF ((LF p.1).map (bodyN t k)) ++ T2 := by
      show Dk.readV s p.1 = _
      rw [readV_mem hw.rise hp hok, l2]
    exact jupTo_any d s ⟨p.1.toArray⟩ u F ((DiskI.res d s).kept (S := fun _ => False) h (Turn.ofBelow _ hu) (fun _ _ h => h)) (by show p.1.toArray.size ≤ _; simp; unfold maxLen; omega) t k ht hk (LF p.1) T2 l1 hrv (by rw [← l2]; omega) l4 l5 D
  have HNm : Hid (∀ u, Below w.heap.size w u → Calls Tryz.prog 42 #[.pointer (some ⟨d, 0, none⟩)] u fun e w' => ∃ A c, e = .returned (.slice A N c) ∧ Hid (w'.ownsRow u.heap.size 9 1 (.slice A N c) N (KS.map encStr)) ∧ Below u.heap.size u w') := fun u hu => by
    refine (dnames_i ((DiskI.res d s).kept (S := fun _ => False) h (Turn.ofBelow _ hu) (fun _ _ h => h))).mono fun e w' ⟨v, e1, e2, e3⟩ => ?_
    rw [hN, hKS] at e2
    obtain ⟨A, c, rfl⟩ := row_shapeJ e2
    exact ⟨A, c, e1, e2, e3⟩
  have HN64 : Hid (N ≤ 64) := by
    obtain ⟨m, G, h1, _⟩ := h
    show _ ≤ _
    rw [← hN, h1.len_fs]
    exact h1.few
  rw [hKS] at h20
  have H20 : Hid ((allE D LF KS).length ≤ 20) := h20
  have HRf : Hid (∀ u, Calls Tryz.prog 55 #[.bool false, .int .i64 5] u fun r w' => r = .returned (.tuple #[]) ∧ u = w') := fun u => (refuse_no 5 u).mono fun _ _ h => ⟨h.1, h.2.symm⟩
  rw [hD, hKS]
  clear h hw m1 m2 m3 m4 m5 hD hKS hN h20
  go_enter Tryz.func46, Tryz.ntmps46
  go_wp2_with (first
    | (go_at_call 55; (with_reducible refine (HRf.out _).mono ?_); rintro e w0 ⟨rfl, rfl⟩)
    | (go_at_call 74; (with_reducible refine (HDu.out _ (Below.refl _ _)).mono ?_); rintro e w1 ⟨rfl, hb1⟩)
    | (go_at_call 42; (with_reducible refine (HNm.out _ hb1).mono ?_); rintro e w2 ⟨A, c, rfl, HO, hb2⟩))
  have HB2 : Hid (Below w.heap.size w w2) := hb1.trans (hb2.mono hb1.size)
  clear hb1 hb2 HDu HNm
  go_loopw [5, 18] (fun v i wr => ∃ (j : Nat) (R : List Er), j ≤ N ∧ i = .int .i64 j ∧ Hid (EntsO wr w2.heap.size t k v R) ∧ Hid (R.map Er.tn = allE D LF (KS.take j)) ∧ Hid (Below w2.heap.size w2 wr)) (fun _ i _ => N - (intOf i).toNat)
  case atStart => exact ⟨0, [], Nat.zero_le _, rfl, ents_nil, (rfl : _ = _), Below.refl _ _⟩
  case round =>
    obtain ⟨j, R, hj, rfl, HR, HRt, HBr⟩ := hrel
    by_cases hlt : j < N
    · obtain ⟨g, rfl, hc1, hc2⟩ := row_someJ HO.out (by omega)
      have hje : j < KS.length := by rw [HKl.out]; exact hlt
      obtain ⟨q, hq⟩ : ∃ q, KS[j] = q := ⟨_, rfl⟩
      have hqm : q ∈ KS := by rw [← hq]; exact List.getElem_mem hje
      have hx : (KS.map encStr)[j]? = some (.string ⟨q.toArray⟩) := by
        rw [List.getElem?_map, List.getElem?_eq_getElem hje, hq]
        rfl
      have q0 : wr.cell? ⟨g, j, none⟩ = some (.string ⟨q.toArray⟩) := by
        have h1 := World.ownsRow.cells (row_kept HO.out HBr.out) (g := g) rfl j _ hx
        rw [Addr.add_lit, Nat.zero_add] at h1
        exact h1
      have hun := allE_next (D := D) (LF := LF) hje
      rw [hq, ← HRt.out] at hun
      have HG := jgen_any q (HKn.out q hqm) wr
      have hlI : (j : Int) < (N : Int) := by omega
      cases hlog : isLogK q with
      | true =>
        rw [hlog, if_pos rfl] at hun
        rw [hlog] at HG
        obtain ⟨G, hGG⟩ : ∃ G, (if true = true then genK q else 0) = G := ⟨_, rfl⟩
        rw [hGG] at HG
        have HU := fun u hu => HUp.out q u hqm hlog hu
        obtain ⟨S, hS⟩ : ∃ S : ByteArray, (⟨q.toArray⟩ : ByteArray) = S := ⟨_, rfl⟩
        rw [hS] at q0 HG HU
        have HU' : Hid (∀ u, Below w.heap.size w u → Calls Tryz.prog 75 #[.int .i64 (D : Int), .pointer (some ⟨d, 0, none⟩), .string S] u fun e w' => ∃ v, e = .returned v ∧ ∃ R, Hid (EntsO w' u.heap.size t k v R) ∧ Hid (R.map Er.tn = upTo D (LF q)) ∧ Hid (Below u.heap.size u w')) := HU
        have HG' : Hid (Calls Tryz.prog 59 #[.string S] wr fun e w' => e = .returned (.tuple #[.int .i64 (G : Int), .bool true]) ∧ Below wr.heap.size wr w') := HG
        clear HG HU hx hS hGG hlog
        go_wp2_with (first
          | (go_at_call 59; (with_reducible refine HG'.out.mono ?_); rintro e w3 ⟨rfl, hb3⟩; have HB3 : Hid (Below w.heap.size w w3 ∧ Below w2.heap.size w2 w3 ∧ Below wr.heap.size wr w3) := ⟨HB2.out.trans ((HBr.out.trans (hb3.mono HBr.out.size)).mono HB2.out.size), HBr.out.trans (hb3.mono HBr.out.size), hb3⟩; clear hb3)
          | (go_at_call 75; (with_reducible refine (HU'.out _ HB3.out.1).mono ?_); rintro e w4 ⟨v2, rfl, R2, HE2, HR2, HB4⟩)
          | (at_builtin; go_must (refine wpList_ents rfl _ _ rfl w2.heap.size t k u5 v2 R R2 rfl ?q1 rfl ?q2 ?q3 ?q4 ?q5 ?_)))
        case q1 => exact (HR.out.below HB3.out.2.2).below HB4.out
        case q2 => exact HE2.out.low HB3.out.2.1.size
        case q3 =>
          intro e he
          obtain ⟨p1, p2, p3, p4, p5, p6⟩ := HE2.out.ent e he
          have hs3 := HB3.out.2.2.size
          refine ⟨fun e1 => ?_, fun e1 => ?_⟩
          · have := (World.ownsRow.lt HR.out.row _ e1).2; omega
          · have := (World.ownsRow.lt HR.out.row _ e1).2; omega
        case q4 =>
          have h1 := congrArg List.length hun
          rw [List.length_append, List.length_map, ← HR2.out, List.length_map] at h1
          have h2 : (allE D LF (KS.take (j + 1))).length ≤ (allE D LF KS).length := by
            have e : KS = KS.take (j + 1) ++ KS.drop (j + 1) := (List.take_append_drop _ _).symm
            conv => rhs; rw [e]
            unfold allE
            rw [List.flatMap_append, List.length_append]
            omega
          have h3 := H20.out
          omega
        case q5 =>
          have h1 := HB3.out.2.1.size
          have h2 := HB4.out.size
          omega
        intro v' w5 HR5 HT5
        have HRt2 : Hid ((R ++ R2).map Er.tn = allE D LF (KS.take (j + 1))) := by
          show _ = _
          rw [hun, List.map_append, HR2.out]
        have HB5 : Hid (Below w2.heap.size w2 w5) := by
          have h1 := HB3.out.2.1
          have h2 := h1.trans (HB4.out.mono h1.size)
          refine h2.trans ((HT5.out.mono (S' := fun i => w2.heap.size ≤ i) (fun i hi => ?_)).toBelow h2.size)
          exact (World.ownsRow.lt HR.out.row _ hi).1
        clear hun
        go_wp2_with fail
        exact ⟨⟨j + 1, R ++ R2, by omega, by go_num, HR5, HRt2, HB5⟩, by simp [intOf]; omega⟩
      | false =>
        rw [hlog, if_neg (by decide), List.append_nil] at hun
        rw [hlog] at HG
        have HRt2 : Hid (R.map Er.tn = allE D LF (KS.take (j + 1))) := hun.symm
        obtain ⟨G, hGG⟩ : ∃ G, (if false = true then genK q else 0) = G := ⟨_, rfl⟩
        rw [hGG] at HG
        obtain ⟨S, hS⟩ : ∃ S : ByteArray, (⟨q.toArray⟩ : ByteArray) = S := ⟨_, rfl⟩
        rw [hS] at q0 HG
        have HG' : Hid (Calls Tryz.prog 59 #[.string S] wr fun e w' => e = .returned (.tuple #[.int .i64 (G : Int), .bool false]) ∧ Below wr.heap.size wr w') := HG
        clear HG hx hS hun hGG hlog
        go_wp2_with (go_at_call 59; (with_reducible refine HG'.out.mono ?_); rintro e w3 ⟨rfl, hb3⟩; have HB3 : Hid (Below w2.heap.size w2 w3 ∧ Below wr.heap.size wr w3) := ⟨HBr.out.trans (hb3.mono HBr.out.size), hb3⟩; clear hb3)
        exact ⟨⟨j + 1, R, by omega, by go_num, HR.out.below HB3.out.2, HRt2, HB3.out.1⟩, by simp [intOf]; omega⟩
    · obtain rfl : j = N := by omega
      have hlI : ¬ (j : Int) < (j : Int) := by omega
      have HE2 : Hid (R.map Er.tn = allE D LF KS) := by
        show _ = _
        rw [HRt.out, List.take_of_length_le (by rw [HKl.out]; exact Nat.le_refl _)]
      have hRl : R.length ≤ 20 := by
        have h1 := congrArg List.length HE2.out
        rw [List.length_map] at h1
        have := H20.out
        omega
      have HS : Hid (Calls Tryz.prog 76 #[u5, .func (.func 77) #[] #[]] wr fun e w' => e = .returned (.tuple #[]) ∧ Hid (EntsO w' w2.heap.size t k u5 (sortE R)) ∧ Hid (Turn (fun i => w2.heap.size ≤ i) wr w')) := jsort_any w2.heap.size t k u5 R wr HR.out hRl
      clear HRt hRl
      go_wp2_with (go_at_call 76; (with_reducible refine HS.out.mono ?_); rintro e w3 ⟨rfl, K1, K2⟩)
      go_returns
      have hB := HBr.out.trans (K2.out.toBelow HBr.out.size)
      exact ⟨u5, rfl, R, K1.out.low HB2.out.size, HE2, HB2.out.trans (hB.mono HB2.out.size)⟩
end Go.Proofs.YtigegdelhpdlhaaGreatDoor
