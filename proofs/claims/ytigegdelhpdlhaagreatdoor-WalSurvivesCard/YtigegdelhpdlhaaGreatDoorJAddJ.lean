import Derived.Test.YtigegdelhpdlhaaGreatDoorJLdJ
import Derived.Deep.RegionLaw
import Derived.Maps.AppendAt
import Derived.RegionDies
/- Layer 18: wal's add of an entry. -/
namespace Go.Proofs.YtigegdelhpdlhaaGreatDoor
open Go.RowKit QP

theorem infoLn : ∃ i, Tryz.prog.info? 113 = some i ∧ i.zero = some (.agg #[.int .i64 0, .string ⟨#[]⟩]) ∧ i.size = 2 ∧ i.bytes = 24 := info_parts (by kernel_rfl)
/-- a line more, at an operation of a region that draws its order -/
theorem step_line {w : World} {ops : Array Oper} {o : Oper} {a : Act} {K : Act → World → Prop} {Q : Exit → Act → World → Prop} {E : Prop} (hgd : o.guard = none) (s x : Operand)
    (ho : o.op = .call { callee := .builtin .append, args := #[s, x], argTypes := #[93, 93] })
    (t k : ByteArray) (W : List (Nat × Nat)) (p : Nat × Nat) (v : Value) (n : Nat) (hs : a.eval s = v) (hown : w.ownsRow 0 113 2 v n (flat (enLn t k) W)) (hn : n ≤ 1000)
    (q : Nat) (hx : a.eval x = .slice (some ⟨q, 0, none⟩) 1 1) (hp : w.heap[q]? = some (.cells (enLn t k p).toArray 113 (0, 0)))
    (h : ∀ v' w', w'.ownsRow 0 113 2 v' (n + 1) (flat (enLn t k) (W ++ [p])) → Turn (fun i => v.ownBlock = some i) w w' → (v'.ownBlock = v.ownBlock ∨ v'.ownBlock = some w.heap.size) → K (a.put o.dst v') w') :
    if Region.wanted o (yielded ops a.tmps) = true then Oper.wp Tryz.prog o a w K Q else E := by
  have hw : Region.wanted o (yielded ops a.tmps) = true := by simp [Region.wanted, hgd]
  rw [if_pos hw]
  obtain ⟨i0, hi, hz0, hz1, hz2⟩ := infoLn
  obtain ⟨v', w', hr, k1, k2, _, k4⟩ := run_append_own_at (P := Tryz.prog) w 0 93 o.type 113 i0 (.agg #[.int .i64 0, .string ⟨#[]⟩]) 2 24 Tryz.underlying93 hi hz0 hz1 hz2 rfl (by decide) v n _ hown ⟨q, 0, none⟩ 1 1 (enLn t k p) rfl (fun j u hu => by
    rw [Addr.add_lit, Nat.zero_add, cell_of hp]
    match j, hu with
    | 0, hu => simpa [enLn] using hu
    | 1, hu => simpa [enLn] using hu) (fun u hu => by
    unfold enLn at hu
    simp only [List.mem_cons, List.not_mem_nil, or_false] at hu
    rcases hu with rfl | rfl <;> rfl) (by unfold maxLen; omega) (by omega) (Nat.zero_le _)
  unfold Oper.wp
  simp [execOp, ho, resolve, invoke, builtin, hs, hx, hr, Result.andThen]
  refine h v' w' ?_ (Turn.ofGrown k2 (fun k hk => hk)) k4
  rw [flat_append]
  have e1 : flat (enLn t k) [p] = enLn t k p := by rw [flat_cons]; exact List.append_nil _
  rw [e1]
  exact k1

set_option maxRecDepth 100000 in
set_option maxHeartbeats 4000000 in
theorem jadd_walk (t k : ByteArray) (l d b i nw : Nat) (v : Value) (wk : Wk) (dur gen : Int) (w : World) (T n g x : Nat)
    (htop : w.heap[l]? = some (.cells #[.pointer (some ⟨d, 0, none⟩), .slice (some ⟨b, 0, none⟩) nw nw, .int .i64 dur, .int .i64 gen] 103 (0, 0))) (hi : i < nw)
    (hb : ∃ cur, w.heap[b]? = some (.cells cur 95 (0, 0))) (hv : w.cell? ⟨b, i * 2, none⟩ = some v) (hl : w.cell? ⟨b, i * 2 + 1, none⟩ = some (.int .u64 (wk.2 : Int)))
    (hown : w.ownsRow 0 113 2 v wk.1.length (flat (enLn t k) wk.1)) (hwl : wk.1.length ≤ 900)
    (hT : TidOk T) (hg : w.heap[g]? = some (boxJ t k x)) (hx : OneAt w x 2 (n : Int) ByteArray.empty) (hn : n < 9223372036854775808) (ht : t.size ≤ 100) (hk : k.size ≤ 100)
    (hlast : wk.2 < T) (hdur : dur < ((T / 8388608 : Nat) : Int)) :
    Calls Tryz.prog 37 #[.pointer (some ⟨l, 0, none⟩), .int .i64 (i : Int), .agg #[.int .u64 (T : Int), .slice (some ⟨g, 0, none⟩) 1 1]] w fun e w' => e = .returned (.tuple #[]) ∧ ∃ v' u, Hid (u.ownsRow 0 113 2 v' (wk.1.length + 1) (flat (enLn t k) (wk.1 ++ [(T, n)]))) ∧ Hid (Turn (fun i => v.ownBlock = some i) w u) ∧ Hid (∀ j, v'.ownBlock = some j → v.ownBlock = some j ∨ w.heap.size ≤ j) ∧ w' = (u.setCell ⟨b, i * 2, none⟩ v').setCell ⟨b, i * 2 + 1, none⟩ (.int .u64 (T : Int)) := by
  obtain ⟨cur, hcur⟩ := hb
  obtain ⟨wA, hwA⟩ : ∃ u, w.alloc (.cells #[.int .u64 (T : Int), .slice (some ⟨g, 0, none⟩) 1 1] 42) = u := ⟨_, rfl⟩
  have hbA : Below w.heap.size w wA := by rw [← hwA]; exact (Below.refl _ _).alloc (Nat.le_refl _) _
  have hcA : wA.heap[w.heap.size]? = some (.cells #[.int .u64 (T : Int), .slice (some ⟨g, 0, none⟩) 1 1] 42 (0, 0)) := by rw [← hwA]; exact heap_new w _
  have HWk : Hid (Calls Tryz.prog 53 #[.pointer (some ⟨l, 0, none⟩), .int .i64 (i : Int)] wA fun e w' => e = .returned (.pointer (some ⟨b, i * 2, none⟩)) ∧ wA = w') := jworker_any l d b nw i _ _ wA ((hbA.block l (lt_of htop)).trans htop) hi
  have HBy : Hid (Calls Tryz.prog 63 #[.agg #[.int .u64 (T : Int), .slice (some ⟨g, 0, none⟩) 1 1]] wA fun e w' => e = .returned (.string (bodyN t k (T, n))) ∧ Below wA.heap.size wA w') := jbytesOf_any T n t k g x wA hT ((hbA.block g (lt_of hg)).trans hg) (hx.below hbA) hn ht hk
  have HEp : Hid (∀ u, Calls Tryz.prog 64 #[.agg #[.int .u64 (T : Int), .slice (some ⟨g, 0, none⟩) 1 1]] u fun e w' => e = .returned (.int .i64 ((T / 8388608 : Nat) : Int)) ∧ Below u.heap.size u w') := fun u => jepochOf_any T _ u hT
  have HFr : Hid (∀ u, Calls Tryz.prog 65 #[.string (bodyN t k (T, n))] u fun e w' => e = .returned (.string (frameB (bodyN t k (T, n)))) ∧ Below u.heap.size u w') := fun u => jframeOf_any (bodyN t k (T, n)) u (by rw [bodyN_size]; show _ + _ + 51 ≤ _; omega)
  have HRf : Hid (∀ u, Calls Tryz.prog 55 #[.bool false, .int .i64 111] u fun r w' => r = .returned (.tuple #[]) ∧ u = w') := fun u => (refuse_no 111 u).mono fun _ _ h => ⟨h.1, h.2.symm⟩
  have HW : Hid (w.alloc (.cells #[.int .u64 (T : Int), .slice (some ⟨g, 0, none⟩) 1 1] 42) = wA) := hwA
  have HAll : Hid (w.heap[l]? = some (.cells #[.pointer (some ⟨d, 0, none⟩), .slice (some ⟨b, 0, none⟩) nw nw, .int .i64 dur, .int .i64 gen] 103 (0, 0)) ∧ w.heap[b]? = some (.cells cur 95 (0, 0)) ∧ w.cell? ⟨b, i * 2, none⟩ = some v ∧ w.cell? ⟨b, i * 2 + 1, none⟩ = some (.int .u64 (wk.2 : Int)) ∧ w.ownsRow 0 113 2 v wk.1.length (flat (enLn t k) wk.1) ∧ Below w.heap.size w wA ∧ wA.heap[w.heap.size]? = some (.cells #[.int .u64 (T : Int), .slice (some ⟨g, 0, none⟩) 1 1] 42 (0, 0))) := ⟨htop, hcur, hv, hl, hown, hbA, hcA⟩
  obtain ⟨ls, hls⟩ : ∃ q, wk.2 = q := ⟨_, rfl⟩
  obtain ⟨Ep, hEp⟩ : ∃ q, T / 8388608 = q := ⟨_, rfl⟩
  rw [hls] at HAll hlast
  rw [hEp] at HEp hdur
  obtain ⟨M, hM⟩ : ∃ M, bodyN t k (T, n) = M := ⟨_, rfl⟩
  rw [hM] at HBy HFr
  obtain ⟨Fr, hFr⟩ : ∃ f, frameB M = f := ⟨_, rfl⟩
  rw [hFr] at HFr
  have HLine : Hid (enLn t k (T, n) = [.int .i64 (Ep : Int), .string Fr]) := by
    show [Value.int .i64 ((T / 8388608 : Nat) : Int), Value.string (frameB (bodyN t k (T, n)))] = _
    rw [hEp, hM, hFr]
  have e1 : ¬ (T : Int) ≤ (ls : Int) := by omega
  have e2 : decide (T ≤ ls) = false := decide_eq_false (by omega)
  have e3 : decide ((Ep : Int) ≤ dur) = false := decide_eq_false (by omega)
  have e4 : ¬ (Ep : Int) ≤ dur := by omega
  have hbw : b < w.heap.size := lt_of hcur
  have hbw2 : w.heap.size ≠ b := by omega
  have hbw3 : b ≠ w.heap.size := by omega
  clear htop hi hcur hv hl hown hT hg hx hn hwA hbA hcA hls hEp hM hFr hlast hdur
  go_enter Tryz.func37, Tryz.ntmps37
  go_wp2_with fail
  rw [HW.out]
  refine HWk.out.mono ?_
  rintro e w1 ⟨rfl, rfl⟩
  have cA0 : wA.cell? ⟨w.heap.size, 0, none⟩ = some (.int .u64 (T : Int)) := by rw [cell_of HAll.out.2.2.2.2.2.2]; rfl
  have cA1 : wA.cell? ⟨w.heap.size, 1, none⟩ = some (.slice (some ⟨g, 0, none⟩) 1 1) := by rw [cell_of HAll.out.2.2.2.2.2.2]; rfl
  go_wp2_with fail
  refine HBy.out.mono ?_
  rintro e w2 ⟨rfl, hb2⟩
  have hc2 := (hb2.block _ (lt_of HAll.out.2.2.2.2.2.2)).trans HAll.out.2.2.2.2.2.2
  have d0 : w2.cell? ⟨w.heap.size, 0, none⟩ = some (.int .u64 (T : Int)) := by rw [cell_of hc2]; rfl
  have d1 : w2.cell? ⟨w.heap.size, 1, none⟩ = some (.slice (some ⟨g, 0, none⟩) 1 1) := by rw [cell_of hc2]; rfl
  have HB2 : Hid (Below w.heap.size w w2 ∧ w2.heap[w.heap.size]? = some (.cells #[.int .u64 (T : Int), .slice (some ⟨g, 0, none⟩) 1 1] 42 (0, 0))) := ⟨HAll.out.2.2.2.2.2.1.trans (hb2.mono HAll.out.2.2.2.2.2.1.size), hc2⟩
  clear hb2 hc2 cA0 cA1 HWk HBy
  go_wp2_with fail
  refine (HEp.out _).mono ?_
  rintro e w3 ⟨rfl, hb3⟩
  have hB3 : Below w.heap.size w w3 := HB2.out.1.trans (hb3.mono HB2.out.1.size)
  have hc3 := (hb3.block _ (lt_of HB2.out.2)).trans HB2.out.2
  have hl3 := (hB3.block l (lt_of HAll.out.1)).trans HAll.out.1
  have hcb3 := (hB3.block b (lt_of HAll.out.2.1)).trans HAll.out.2.1
  have a0 : w3.cell? ⟨w.heap.size, 0, none⟩ = some (.int .u64 (T : Int)) := by rw [cell_of hc3]; rfl
  have a1 : w3.cell? ⟨b, i * 2 + 1, none⟩ = some (.int .u64 (ls : Int)) := (hB3.cell (p := ⟨b, i * 2 + 1, none⟩) (lt_of HAll.out.2.1)).trans HAll.out.2.2.2.1
  have a2 : w3.cell? ⟨l, 2, none⟩ = some (.int .i64 dur) := by rw [cell_of hl3]; rfl
  have a3 : w3.cell? ⟨b, i * 2, none⟩ = some v := (hB3.cell (p := ⟨b, i * 2, none⟩) (lt_of HAll.out.2.1)).trans HAll.out.2.2.1
  have HB3 : Hid (Below w.heap.size w w3 ∧ w3.heap[w.heap.size]? = some (.cells #[.int .u64 (T : Int), .slice (some ⟨g, 0, none⟩) 1 1] 42 (0, 0))) := ⟨hB3, hc3⟩
  clear hb3 hB3 hc3 hl3 hcb3 d0 d1 HEp
  go_wp2_with fail
  go_region_held3 (fun u => u.cell? ⟨w.heap.size, 0, none⟩ = some (.int .u64 (T : Int)) ∧ u.cell? ⟨b, i * 2 + 1, none⟩ = some (.int .u64 (ls : Int)) ∧ u.cell? ⟨l, 2, none⟩ = some (.int .i64 dur)) (go_keep)
    (first | (go_at_call 55; (with_reducible refine (HRf.out _).mono ?_); rintro e w4 ⟨rfl, rfl⟩))
  have HX : Hid (∀ (u u5 : World), Below w3.heap.size w3 u → Below u.heap.size u u5 → u5.cell? ⟨b, i * 2, none⟩ = some v ∧ (∀ o, (u5.alloc o).cell? ⟨b, i * 2, none⟩ = some v) ∧ Hid ((Below w.heap.size w u5 ∧ u5.heap[w.heap.size]? = some (.cells #[.int .u64 (T : Int), .slice (some ⟨g, 0, none⟩) 1 1] 42 (0, 0))) ∧ ∀ u6, Below u5.heap.size u5 u6 → u6.ownsRow 0 113 2 v wk.1.length (flat (enLn t k) wk.1))) := fun u u5 h1 h2 => by
    have h3 : Below w.heap.size w u := HB3.out.1.trans (h1.mono HB3.out.1.size)
    have h4 : Below w.heap.size w u5 := h3.trans (h2.mono h3.size)
    exact ⟨(h4.cell (p := ⟨b, i * 2, none⟩) (lt_of HAll.out.2.1)).trans HAll.out.2.2.1, fun o => ((h4.alloc h4.size o).cell (p := ⟨b, i * 2, none⟩) (lt_of HAll.out.2.1)).trans HAll.out.2.2.1, ⟨h4, (h2.block _ (by have := lt_of HB3.out.2; exact Nat.lt_of_lt_of_le this h1.size)).trans ((h1.block _ (lt_of HB3.out.2)).trans HB3.out.2)⟩, fun u6 h6 => row_kept (row_kept HAll.out.2.2.2.2.1 h4) h6⟩
  have HY : Hid (∀ (u5 u6 u7 : World), Below w.heap.size w u5 ∧ u5.heap[w.heap.size]? = some (.cells #[.int .u64 (T : Int), .slice (some ⟨g, 0, none⟩) 1 1] 42 (0, 0)) → Below u5.heap.size u5 u6 → Turn (fun j => v.ownBlock = some j) u6 u7 → (u7.cell? ⟨b, i * 2, none⟩ = some v ∧ u7.frozen? ⟨b, i * 2, none⟩ = false) ∧ (u7.cell? ⟨b, i * 2 + 1, none⟩ = some (.int .u64 (ls : Int)) ∧ u7.frozen? ⟨b, i * 2 + 1, none⟩ = false) ∧ u7.cell? ⟨w.heap.size, 0, none⟩ = some (.int .u64 (T : Int)) ∧ Hid (Turn (fun j => v.ownBlock = some j) w u7)) := fun u5 u6 u7 ⟨h1, h1e⟩ h2 h3 => by
    have hb6 : Below w.heap.size w u6 := h1.trans (h2.mono h1.size)
    have hT : Turn (fun j => v.ownBlock = some j) w u7 := (Turn.ofBelow _ hb6).trans h3
    have hne : ¬ v.ownBlock = some b := fun e => by
      obtain ⟨cur2, hc2, _⟩ := ownsRow_own HAll.out.2.2.2.2.1 e
      rw [HAll.out.2.1] at hc2
      simp only [Option.some.injEq, Obj.cells.injEq] at hc2
      exact absurd hc2.2.1 (by decide)
    have hb7 := (hT.block b (lt_of HAll.out.2.1) hne).trans HAll.out.2.1
    have hcell : ∀ j z, w.cell? ⟨b, j, none⟩ = some z → u7.cell? ⟨b, j, none⟩ = some z := fun j z hz => by
      rw [← hz]
      rw [cell_of hb7, cell_of HAll.out.2.1]
    refine ⟨⟨hcell _ _ HAll.out.2.2.1, frozen_of hb7 _⟩, ⟨hcell _ _ HAll.out.2.2.2.1, frozen_of hb7 _⟩, ?_, hT⟩
    have h6e := (h2.block _ (lt_of h1e)).trans h1e
    have h7e := (h3.block _ (lt_of h6e) (fun e => by have := (World.ownsRow.lt HAll.out.2.2.2.2.1 _ e).2; omega)).trans h6e
    rw [cell_of h7e]
    rfl
  have HZ : Hid (∀ (u5 u6 u7 : World) (v' : Value), Below w.heap.size w u5 ∧ u5.heap[w.heap.size]? = some (.cells #[.int .u64 (T : Int), .slice (some ⟨g, 0, none⟩) 1 1] 42 (0, 0)) → Below u5.heap.size u5 u6 → u7.ownsRow 0 113 2 v' (wk.1.length + 1) (flat (enLn t k) (wk.1 ++ [(T, n)])) → (v'.ownBlock = v.ownBlock ∨ v'.ownBlock = some u6.heap.size) → Hid (u7.ownsRow 0 113 2 v' (wk.1.length + 1) (flat (enLn t k) (wk.1 ++ [(T, n)])) ∧ ∀ j, v'.ownBlock = some j → v.ownBlock = some j ∨ w.heap.size ≤ j)) := fun u5 u6 u7 v' ⟨h1, _⟩ h2 h3 h4 => by
    refine ⟨h3, fun j hj => ?_⟩
    rcases h4 with h4 | h4
    · exact Or.inl (h4 ▸ hj)
    · rw [h4] at hj
      right
      simp only [Option.some.injEq] at hj
      have := h1.size
      have := h2.size
      omega
  go_wp2_with fail
  go_region_law (first
    | (refine step_line (by rfl) _ _ (by rfl) t k wk.1 (T, n) v wk.1.length (by rfl) (H5.out.2 _ (by go_grown)) (by omega) w5.heap.size (by rfl) (by rw [HLine.out]; exact heap_new _ _) ?_; intro v' w6 k1 k2 k4; obtain ⟨A6, m6, rfl⟩ := row_shapeJ k1; obtain ⟨⟨c6, f6⟩, ⟨c7, f7⟩, c8, HT6⟩ := HY.out w5 _ w6 H5.out.1 (by go_grown) k2; have H6 := HZ.out w5 _ w6 (.slice A6 (wk.1.length + 1) m6) H5.out.1 (by go_grown) k1 k4; clear k1 k2 k4)
    | (rw [if_pos (by rfl)]; go_simp; (with_reducible refine (HFr.out _).mono ?_); rintro e w5 ⟨rfl, hb5⟩; dsimp only; obtain ⟨c5, ca5, H5⟩ := HX.out _ w5 (by go_grown) hb5; clear hb5))
  all_goals
    go_wp2_with fail
    go_end0
    exact ⟨rfl, _, w6, H6.out.1, HT6, H6.out.2, rfl⟩

theorem flat_setW {P : List (Value × Nat)} {i : Nat} {v : Value} {n : Nat} (hi : i < P.length) : ((flat enWv P).set (i * 2) v).set (i * 2 + 1) (.int .u64 (n : Int)) = flat enWv (P.set i (v, n)) := by
  induction P generalizing i with
  | nil => simp at hi
  | cons p P ih =>
    cases i with
    | zero => simp [flat_cons, enWv]
    | succ i =>
      have hi' : i < P.length := by simpa using hi
      rw [List.set_cons_succ, flat_cons, flat_cons, ← ih hi']
      rw [show (i + 1) * 2 = (enWv p).length + i * 2 by rw [enWv_len]; omega, List.set_append_right _ _ (by omega), Nat.add_sub_cancel_left, show (enWv p).length + i * 2 + 1 = (enWv p).length + (i * 2 + 1) by omega, List.set_append_right _ _ (by omega), Nat.add_sub_cancel_left]
theorem zip_setW {vs : List Value} {ns : List Nat} {i : Nat} {v : Value} {n : Nat} : (vs.set i v).zip (ns.set i n) = (vs.zip ns).set i (v, n) := by
  induction vs generalizing ns i with
  | nil => simp
  | cons a vs ih =>
    cases ns with
    | nil => simp
    | cons c ns =>
      cases i with
      | zero => rfl
      | succ i => simp [ih]

/-- a worker's two cells are written anew -/
theorem LogG.setWk {w u : World} {t k : ByteArray} {l d b : Nat} {vs : List Value} {L : Lg} (h : LogG w t k l d b vs L) {i : Nat} {v v' : Value} {wk wk' : Wk} (hv : vs[i]? = some v) (hw : L.ws[i]? = some wk)
    (hrow : u.ownsRow 0 113 2 v' wk'.1.length (flat (enLn t k) wk'.1)) (hT : Turn (fun j => v.ownBlock = some j) w u) (hnew : ∀ j, v'.ownBlock = some j → v.ownBlock = some j ∨ w.heap.size ≤ j) (hfew : wk'.1.length ≤ 1000 ∧ wk'.2 < 18446744073709551616) {F : Nat → Prop} (hF : ∀ j, F j ↔ footL l b vs j) :
    Goes (LogI t k l d { L with ws := L.ws.set i wk' }) w ((u.setCell ⟨b, i * 2, none⟩ v').setCell ⟨b, i * 2 + 1, none⟩ (.int .u64 (wk'.2 : Int))) F := by
  have hvi : i < vs.length := (List.getElem?_eq_some_iff.1 hv).1
  have hwi : i < L.ws.length := (List.getElem?_eq_some_iff.1 hw).1
  have hol := h.own i v wk hv hw
  obtain ⟨cur, hcur, hce⟩ := h.row
  have hne : ∀ g (c : Array Value) (T : TypeId), w.heap[g]? = some (.cells c T (0, 0)) → T ≠ 113 → ¬ v.ownBlock = some g := fun g c T hg hT e => by
    obtain ⟨cur2, hc2, _⟩ := ownsRow_own hol e
    rw [hg] at hc2
    simp only [Option.some.injEq, Obj.cells.injEq] at hc2
    exact hT hc2.2.1
  have hnb := hne b _ _ hcur (by decide)
  have hnl := hne l _ _ h.top (by decide)
  have hlb : l ≠ b := fun e => by
    have h1 := h.top
    rw [e, hcur] at h1
    simp only [Option.some.injEq, Obj.cells.injEq] at h1
    exact absurd h1.2.1 (by decide)
  obtain ⟨z, hz⟩ : ∃ z, (u.setCell ⟨b, i * 2, none⟩ v').setCell ⟨b, i * 2 + 1, none⟩ (.int .u64 (wk'.2 : Int)) = z := ⟨_, rfl⟩
  have hTz : Turn (fun j => j = b) u z := by
    rw [← hz]
    exact (Turn.setCell (S := fun j => j = b) u ⟨b, i * 2, none⟩ v' rfl).trans (Turn.setCell _ ⟨b, i * 2 + 1, none⟩ _ rfl)
  have hub := (hT.block b (lt_of hcur) hnb).trans hcur
  have hzb : z.heap[b]? = some (.cells ((cur.setIfInBounds (i * 2) v').setIfInBounds (i * 2 + 1) (.int .u64 (wk'.2 : Int))) 95 (0, 0)) := by
    rw [← hz]
    exact heap_setCell_same (heap_setCell_same hub _ _) _ _
  have hnv' : v'.ownBlock ≠ some b := fun e => by
    rcases hnew b e with h1 | h1
    · exact hnb h1
    · have := lt_of hcur; omega
  rw [hz]
  refine ⟨footL l b (vs.set i v'), ⟨b, vs.set i v', ⟨?_, ⟨_, hzb, ?_⟩, by simp [h.len], ?_, ?_, ?_⟩, fun _ => Iff.rfl⟩, ?_, ?_⟩
  · rw [List.length_set]
    exact (hTz.block l (lt_of ((hT.block l (lt_of h.top) hnl).trans h.top)) hlb).trans ((hT.block l (lt_of h.top) hnl).trans h.top)
  · rw [Array.toList_setIfInBounds, Array.toList_setIfInBounds, hce, List.map_set, zip_setW]
    exact flat_setW (by rw [List.length_zip, List.length_map]; omega)
  · intro j a ak ha hak
    by_cases e : i = j
    · subst e
      rw [List.getElem?_set_self hvi] at ha
      rw [List.getElem?_set_self hwi] at hak
      cases ha
      cases hak
      exact ownsRow_block hrow fun g hg => hTz.block g (World.ownsRow.lt hrow g hg).2 (fun e => hnv' (e ▸ hg))
    · rw [List.getElem?_set_ne e] at ha hak
      have hj := h.own j a ak ha hak
      have h1 : ∀ g, a.ownBlock = some g → z.heap[g]? = w.heap[g]? := fun g hg => by
        have hgl := (World.ownsRow.lt hj g hg).2
        have hn1 : ¬ v.ownBlock = some g := fun e2 => h.apart i j v a g e hv ha e2 hg
        have hn2 : g ≠ b := fun e2 => by
          obtain ⟨cur2, hc2, _⟩ := ownsRow_own hj hg
          rw [e2, hcur] at hc2
          simp only [Option.some.injEq, Obj.cells.injEq] at hc2
          exact absurd hc2.2.1 (by decide)
        exact (hTz.block g (Nat.lt_of_lt_of_le hgl hT.size) hn2).trans (hT.block g hgl hn1)
      exact ownsRow_block hj h1
  · intro p q a c g hpq hp hq ha hc
    have key : ∀ (p q : Nat) (a c : Value), p ≠ q → (vs.set i v')[p]? = some a → (vs.set i v')[q]? = some c → i = p → a.ownBlock = some g → c.ownBlock = some g → False := by
      intro p q a c hpq hp hq e ha hc
      subst e
      rw [List.getElem?_set_self hvi] at hp
      cases hp
      rw [List.getElem?_set_ne hpq] at hq
      have hqw : L.ws[q]? = some (L.ws[q]'(by rw [← h.len]; exact (List.getElem?_eq_some_iff.1 hq).1)) := List.getElem?_eq_getElem _
      rcases hnew g ha with h1 | h1
      · exact h.apart i q v c g hpq hv hq h1 hc
      · have := (World.ownsRow.lt (h.own q c _ hq hqw) g hc).2; omega
    by_cases e1 : i = p
    · exact key p q a c hpq hp hq e1 ha hc
    · by_cases e2 : i = q
      · exact key q p c a (Ne.symm hpq) hq hp e2 hc ha
      · rw [List.getElem?_set_ne e1] at hp
        rw [List.getElem?_set_ne e2] at hq
        exact h.apart p q a c g hpq hp hq ha hc
  · refine ⟨by rw [List.length_set]; exact h.few.1, fun x hx => ?_⟩
    rcases List.mem_or_eq_of_mem_set hx with hx | rfl
    · exact h.few.2 x hx
    · exact hfew
  · refine (hT.mono fun j hj => (hF j).2 (Or.inr (Or.inr ⟨v, List.mem_of_getElem? hv, hj⟩))).trans (hTz.mono fun j hj => (hF j).2 (Or.inr (Or.inl hj)))
  · intro j hj
    rcases hj with rfl | rfl | ⟨a, ha, e⟩
    · exact Or.inl ((hF _).2 (Or.inl rfl))
    · exact Or.inl ((hF _).2 (Or.inr (Or.inl rfl)))
    · rcases List.mem_or_eq_of_mem_set ha with ha | rfl
      · exact Or.inl ((hF _).2 (Or.inr (Or.inr ⟨a, ha, e⟩)))
      · rcases hnew j e with h1 | h1
        · exact Or.inl ((hF _).2 (Or.inr (Or.inr ⟨v, List.mem_of_getElem? hv, h1⟩)))
        · exact Or.inr h1

/-- add: an entry waits -/
theorem jadd_i (t k : ByteArray) (l d i : Nat) (wk : Wk) (L : Lg) (w : World) (F : Nat → Prop) (T n g x : Nat) (h : LogI t k l d L w F) (hwk : L.ws[i]? = some wk) (hwl : wk.1.length ≤ 900)
    (hT : TidOk T) (hg : w.heap[g]? = some (boxJ t k x)) (hx : OneAt w x 2 (n : Int) ByteArray.empty) (hn : n < 9223372036854775808) (ht : t.size ≤ 100) (hk : k.size ≤ 100) (hlast : wk.2 < T) (hdur : L.dur < T / 8388608) :
    Calls Tryz.prog 37 #[.pointer (some ⟨l, 0, none⟩), .int .i64 (i : Int), .agg #[.int .u64 (T : Int), .slice (some ⟨g, 0, none⟩) 1 1]] w fun e w' => e = .returned (.tuple #[]) ∧ Goes (LogI t k l d { L with ws := L.ws.set i (wk.1 ++ [(T, n)], T) }) w w' F := by
  obtain ⟨b, vs, hG, hF⟩ := h
  have hwi : i < L.ws.length := (List.getElem?_eq_some_iff.1 hwk).1
  have hv : vs[i]? = some (vs[i]'(by rw [hG.len]; exact hwi)) := List.getElem?_eq_getElem _
  obtain ⟨c0, c1⟩ := hG.wk hv hwk
  obtain ⟨cur, hcur, _⟩ := hG.row
  refine (jadd_walk t k l d b i L.ws.length _ wk (L.dur : Int) (L.gen : Int) w T n g x hG.top hwi ⟨cur, hcur⟩ c0 c1 (hG.own i _ wk hv hwk) hwl hT hg hx hn ht hk hlast (by omega)).mono ?_
  rintro e w' ⟨e1, v', u, h1, h2, h3, rfl⟩
  refine ⟨e1, hG.setWk hv hwk (wk' := (wk.1 ++ [(T, n)], T)) ?_ h2.out h3.out ⟨?_, hT.lt⟩ hF⟩
  · rw [show (wk.1 ++ [(T, n)], T).1.length = wk.1.length + 1 by simp]
    exact h1.out
  · show (wk.1 ++ [(T, n)]).length ≤ 1000
    rw [List.length_append]
    show wk.1.length + 1 ≤ 1000
    omega
end Go.Proofs.YtigegdelhpdlhaaGreatDoor

/- Layer 18: wal's add of an entry that is too old; Add. -/
namespace Go.Proofs.YtigegdelhpdlhaaGreatDoor
open Go.RowKit QP

set_option maxRecDepth 100000 in
set_option maxHeartbeats 4000000 in
theorem jaddOld_walk (t k : ByteArray) (l d b i nw : Nat) (v : Value) (wk : Wk) (dur gen : Int) (w : World) (T n g x : Nat)
    (htop : w.heap[l]? = some (.cells #[.pointer (some ⟨d, 0, none⟩), .slice (some ⟨b, 0, none⟩) nw nw, .int .i64 dur, .int .i64 gen] 103 (0, 0))) (hi : i < nw)
    (hb : ∃ cur, w.heap[b]? = some (.cells cur 95 (0, 0))) (hv : w.cell? ⟨b, i * 2, none⟩ = some v) (hl : w.cell? ⟨b, i * 2 + 1, none⟩ = some (.int .u64 (wk.2 : Int)))
    (hown : w.ownsRow 0 113 2 v wk.1.length (flat (enLn t k) wk.1))
    (hT : TidOk T) (hg : w.heap[g]? = some (boxJ t k x)) (hx : OneAt w x 2 (n : Int) ByteArray.empty) (hn : n < 9223372036854775808) (ht : t.size ≤ 100) (hk : k.size ≤ 100)
    (hlast : wk.2 < T) (hdur : ((T / 8388608 : Nat) : Int) ≤ dur) :
    Calls Tryz.prog 37 #[.pointer (some ⟨l, 0, none⟩), .int .i64 (i : Int), .agg #[.int .u64 (T : Int), .slice (some ⟨g, 0, none⟩) 1 1]] w fun e w' => e = .panicked (mis 111) ∧ Below w.heap.size w w' := by
  obtain ⟨cur, hcur⟩ := hb
  obtain ⟨wA, hwA⟩ : ∃ u, w.alloc (.cells #[.int .u64 (T : Int), .slice (some ⟨g, 0, none⟩) 1 1] 42) = u := ⟨_, rfl⟩
  have hbA : Below w.heap.size w wA := by rw [← hwA]; exact (Below.refl _ _).alloc (Nat.le_refl _) _
  have hcA : wA.heap[w.heap.size]? = some (.cells #[.int .u64 (T : Int), .slice (some ⟨g, 0, none⟩) 1 1] 42 (0, 0)) := by rw [← hwA]; exact heap_new w _
  have HWk : Hid (Calls Tryz.prog 53 #[.pointer (some ⟨l, 0, none⟩), .int .i64 (i : Int)] wA fun e w' => e = .returned (.pointer (some ⟨b, i * 2, none⟩)) ∧ wA = w') := jworker_any l d b nw i _ _ wA ((hbA.block l (lt_of htop)).trans htop) hi
  have HBy : Hid (Calls Tryz.prog 63 #[.agg #[.int .u64 (T : Int), .slice (some ⟨g, 0, none⟩) 1 1]] wA fun e w' => e = .returned (.string (bodyN t k (T, n))) ∧ Below wA.heap.size wA w') := jbytesOf_any T n t k g x wA hT ((hbA.block g (lt_of hg)).trans hg) (hx.below hbA) hn ht hk
  have HEp : Hid (∀ u, Calls Tryz.prog 64 #[.agg #[.int .u64 (T : Int), .slice (some ⟨g, 0, none⟩) 1 1]] u fun e w' => e = .returned (.int .i64 ((T / 8388608 : Nat) : Int)) ∧ Below u.heap.size u w') := fun u => jepochOf_any T _ u hT
  have HFr : Hid (∀ u, Calls Tryz.prog 65 #[.string (bodyN t k (T, n))] u fun e w' => e = .returned (.string (frameB (bodyN t k (T, n)))) ∧ Below u.heap.size u w') := fun u => jframeOf_any (bodyN t k (T, n)) u (by rw [bodyN_size]; show _ + _ + 51 ≤ _; omega)
  have HRf : Hid (∀ u, Calls Tryz.prog 55 #[.bool true, .int .i64 111] u fun r w' => r = .panicked (mis 111) ∧ u = w') := fun u => (refuse_yes 111 u).mono fun _ _ h => ⟨h.1, h.2.symm⟩
  have HW : Hid (w.alloc (.cells #[.int .u64 (T : Int), .slice (some ⟨g, 0, none⟩) 1 1] 42) = wA) := hwA
  have HAll : Hid (w.heap[l]? = some (.cells #[.pointer (some ⟨d, 0, none⟩), .slice (some ⟨b, 0, none⟩) nw nw, .int .i64 dur, .int .i64 gen] 103 (0, 0)) ∧ w.heap[b]? = some (.cells cur 95 (0, 0)) ∧ w.cell? ⟨b, i * 2, none⟩ = some v ∧ w.cell? ⟨b, i * 2 + 1, none⟩ = some (.int .u64 (wk.2 : Int)) ∧ w.ownsRow 0 113 2 v wk.1.length (flat (enLn t k) wk.1) ∧ Below w.heap.size w wA ∧ wA.heap[w.heap.size]? = some (.cells #[.int .u64 (T : Int), .slice (some ⟨g, 0, none⟩) 1 1] 42 (0, 0))) := ⟨htop, hcur, hv, hl, hown, hbA, hcA⟩
  obtain ⟨ls, hls⟩ : ∃ q, wk.2 = q := ⟨_, rfl⟩
  obtain ⟨Ep, hEp⟩ : ∃ q, T / 8388608 = q := ⟨_, rfl⟩
  rw [hls] at HAll hlast
  rw [hEp] at HEp hdur
  obtain ⟨M, hM⟩ : ∃ M, bodyN t k (T, n) = M := ⟨_, rfl⟩
  rw [hM] at HBy HFr
  obtain ⟨Fr, hFr⟩ : ∃ f, frameB M = f := ⟨_, rfl⟩
  rw [hFr] at HFr
  have HLine : Hid (enLn t k (T, n) = [.int .i64 (Ep : Int), .string Fr]) := by
    show [Value.int .i64 ((T / 8388608 : Nat) : Int), Value.string (frameB (bodyN t k (T, n)))] = _
    rw [hEp, hM, hFr]
  have e1 : ¬ (T : Int) ≤ (ls : Int) := by omega
  have e2 : decide (T ≤ ls) = false := decide_eq_false (by omega)
  have e3 : decide ((Ep : Int) ≤ dur) = true := decide_eq_true hdur
  have e4 : (Ep : Int) ≤ dur := hdur
  have hbw : b < w.heap.size := lt_of hcur
  have hbw2 : w.heap.size ≠ b := by omega
  have hbw3 : b ≠ w.heap.size := by omega
  clear htop hi hcur hv hl hown hT hg hx hn hwA hbA hcA hls hEp hM hFr hlast hdur
  go_enter Tryz.func37, Tryz.ntmps37
  go_wp2_with fail
  rw [HW.out]
  refine HWk.out.mono ?_
  rintro e w1 ⟨rfl, rfl⟩
  have cA0 : wA.cell? ⟨w.heap.size, 0, none⟩ = some (.int .u64 (T : Int)) := by rw [cell_of HAll.out.2.2.2.2.2.2]; rfl
  have cA1 : wA.cell? ⟨w.heap.size, 1, none⟩ = some (.slice (some ⟨g, 0, none⟩) 1 1) := by rw [cell_of HAll.out.2.2.2.2.2.2]; rfl
  go_wp2_with fail
  refine HBy.out.mono ?_
  rintro e w2 ⟨rfl, hb2⟩
  have hc2 := (hb2.block _ (lt_of HAll.out.2.2.2.2.2.2)).trans HAll.out.2.2.2.2.2.2
  have d0 : w2.cell? ⟨w.heap.size, 0, none⟩ = some (.int .u64 (T : Int)) := by rw [cell_of hc2]; rfl
  have d1 : w2.cell? ⟨w.heap.size, 1, none⟩ = some (.slice (some ⟨g, 0, none⟩) 1 1) := by rw [cell_of hc2]; rfl
  have HB2 : Hid (Below w.heap.size w w2 ∧ w2.heap[w.heap.size]? = some (.cells #[.int .u64 (T : Int), .slice (some ⟨g, 0, none⟩) 1 1] 42 (0, 0))) := ⟨HAll.out.2.2.2.2.2.1.trans (hb2.mono HAll.out.2.2.2.2.2.1.size), hc2⟩
  clear hb2 hc2 cA0 cA1 HWk HBy
  go_wp2_with fail
  refine (HEp.out _).mono ?_
  rintro e w3 ⟨rfl, hb3⟩
  have hB3 : Below w.heap.size w w3 := HB2.out.1.trans (hb3.mono HB2.out.1.size)
  have hc3 := (hb3.block _ (lt_of HB2.out.2)).trans HB2.out.2
  have hl3 := (hB3.block l (lt_of HAll.out.1)).trans HAll.out.1
  have hcb3 := (hB3.block b (lt_of HAll.out.2.1)).trans HAll.out.2.1
  have a0 : w3.cell? ⟨w.heap.size, 0, none⟩ = some (.int .u64 (T : Int)) := by rw [cell_of hc3]; rfl
  have a1 : w3.cell? ⟨b, i * 2 + 1, none⟩ = some (.int .u64 (ls : Int)) := (hB3.cell (p := ⟨b, i * 2 + 1, none⟩) (lt_of HAll.out.2.1)).trans HAll.out.2.2.2.1
  have a2 : w3.cell? ⟨l, 2, none⟩ = some (.int .i64 dur) := by rw [cell_of hl3]; rfl
  have a3 : w3.cell? ⟨b, i * 2, none⟩ = some v := (hB3.cell (p := ⟨b, i * 2, none⟩) (lt_of HAll.out.2.1)).trans HAll.out.2.2.1
  have HB3 : Hid (Below w.heap.size w w3 ∧ w3.heap[w.heap.size]? = some (.cells #[.int .u64 (T : Int), .slice (some ⟨g, 0, none⟩) 1 1] 42 (0, 0))) := ⟨hB3, hc3⟩
  clear hb3 hB3 hc3 hl3 hcb3 d0 d1 HEp
  go_wp2_with fail
  go_region_dies
  all_goals
    (with_reducible refine (HRf.out _).mono ?_)
    rintro e w4 ⟨rfl, rfl⟩
    exact ⟨rfl, rfl, HB3.out.1.trans ((below_drewN _ 1).mono HB3.out.1.size)⟩
end Go.Proofs.YtigegdelhpdlhaaGreatDoor

/- Layer 18: the log's calls over their closures. (By jcall.py.) -/
namespace Go.Proofs.YtigegdelhpdlhaaGreatDoor
open Go.RowKit QP

abbrev logO (l : Nat) : Obj := .cells #[.pointer (some ⟨l, 0, none⟩)] 29 (0, 0)
abbrev entO (T g : Nat) : Obj := .cells #[.int .u64 (T : Int), .slice (some ⟨g, 0, none⟩) 1 1] 42 (0, 0)
section
variable {I' : World → (Nat → Prop) → Prop} {F : Nat → Prop}
set_option maxRecDepth 100000 in
set_option maxHeartbeats 1000000 in
theorem jAdd_ok (R : Res I') (l i T g : Nat) (w : World) (hF : ∀ i, F i → i < w.heap.size) (h : ∀ u, Below w.heap.size w u → Calls Tryz.prog 37 #[.pointer (some ⟨l, 0, none⟩), .int .i64 (i : Int), .agg #[.int .u64 (T : Int), .slice (some ⟨g, 0, none⟩) 1 1]] u fun r w' => r = .returned (.tuple #[]) ∧ Goes I' u w' F) :
    Calls Tryz.prog 15 #[.pointer (some ⟨l, 0, none⟩), .int .i64 (i : Int), .agg #[.int .u64 (T : Int), .slice (some ⟨g, 0, none⟩) 1 1]] w fun r w' => r = .returned (.int .i64 0) ∧ Goes I' w w' F := by
  have hmf : ∀ (fn : Fn) (first cap : Array Value) (w : World), (Instr.makeFunc fn first cap).run Tryz.prog w = .ok (.func fn first cap) w := fun _ _ _ _ => rfl
  obtain ⟨q, hq⟩ : ∃ q, w.heap.size = q := ⟨_, rfl⟩
  obtain ⟨wT, hwT⟩ : ∃ u, ((w.alloc (logO l)).alloc (numO (i : Int))).alloc (entO T g) = u := ⟨_, rfl⟩
  have b1 : Below w.heap.size w (w.alloc (logO l)) := (Below.refl _ _).alloc (Nat.le_refl _) _
  have b2 := b1.alloc b1.size (numO (i : Int))
  have b3 := b2.alloc b2.size (entO T g)
  have hn0 := (Below.heap_alloc _ (entO T g) w.heap.size (by simp; omega)).trans ((Below.heap_alloc _ (numO (i : Int)) w.heap.size (by simp)).trans (heap_new w (logO l)))
  have hn1 := (Below.heap_alloc _ (entO T g) (w.alloc (logO l)).heap.size (by simp)).trans (heap_new (w.alloc (logO l)) (numO (i : Int)))
  have hn2 := heap_new ((w.alloc (logO l)).alloc (numO (i : Int))) (entO T g)
  rw [World.size_alloc, hq] at hn1
  rw [World.size_alloc, World.size_alloc, hq] at hn2
  rw [hq] at hn0
  rw [hwT] at hn0 hn1 hn2 b3
  have hbT : Below w.heap.size w wT := b3
  have HD : Hid (Calls Tryz.prog 35 #[.func (.func 36) #[] #[.pointer (some ⟨q, 0, none⟩), .pointer (some ⟨q + 1, 0, none⟩), .pointer (some ⟨q + 2, 0, none⟩)]] wT fun r w' => r = .returned (.int .i64 0) ∧ Goes I' wT w' F) := by
    refine done3_goes_ok R 36 _ _ _ wT (fun j hj => Nat.lt_of_lt_of_le (hF j hj) hbT.size) (enters_of Tryz.func36 (by kernel_rfl) rfl _) fun u hu => ?_
    have HC : Hid (Calls Tryz.prog 37 #[.pointer (some ⟨l, 0, none⟩), .int .i64 (i : Int), .agg #[.int .u64 (T : Int), .slice (some ⟨g, 0, none⟩) 1 1]] u fun r w' => r = .returned (.tuple #[]) ∧ Goes I' u w' F) := h u (hbT.trans (hu.mono hbT.size))
    have h0 := (hu.block _ (lt_of hn0)).trans hn0
    have h1 := (hu.block _ (lt_of hn1)).trans hn1
    have h2 := (hu.block _ (lt_of hn2)).trans hn2
    have d0 : u.cell? ⟨q, 0, none⟩ = some (.pointer (some ⟨l, 0, none⟩)) := by rw [cell_of h0]; rfl
    have d1 : u.cell? ⟨q + 1, 0, none⟩ = some (.int .i64 (i : Int)) := by rw [cell_of h1]; rfl
    have d2 : u.cell? ⟨q + 2, 0, none⟩ = some (.int .u64 (T : Int)) := by rw [cell_of h2]; rfl
    have d3 : u.cell? ⟨q + 2, 1, none⟩ = some (.slice (some ⟨g, 0, none⟩) 1 1) := by rw [cell_of h2]; rfl
    clear h hn0 hn1 hn2 h0 h1 h2 hwT hbT b1 b2 b3 hu
    go_enter Tryz.func36, Tryz.ntmps36
    go_wp2_with fail
    refine HC.out.mono ?_
    rintro r w1 ⟨rfl, hg⟩
    go_wp2_with fail
    go_end0
    exact ⟨rfl, hg⟩
  have HW : Hid (((w.alloc (logO l)).alloc (numO (i : Int))).alloc (entO T g) = wT) := hwT
  have HB : Hid (Below w.heap.size w wT) := hbT
  clear h hn0 hn1 hn2 hbT hwT b1 b2 b3
  go_enter Tryz.func15, Tryz.ntmps15
  go_wp2_with fail
  rw [HW.out]
  refine HD.out.mono ?_
  rintro r w2 ⟨rfl, hg⟩
  go_wp2_with fail
  go_ret
  exact ⟨rfl, hg.after HB.out⟩

set_option maxRecDepth 100000 in
set_option maxHeartbeats 1000000 in
theorem jAdd_err (n : Int) (R : Res I') (l i T g : Nat) (w : World) (hF : ∀ i, F i → i < w.heap.size) (h : ∀ u, Below w.heap.size w u → Calls Tryz.prog 37 #[.pointer (some ⟨l, 0, none⟩), .int .i64 (i : Int), .agg #[.int .u64 (T : Int), .slice (some ⟨g, 0, none⟩) 1 1]] u fun r w' => r = .panicked (mis n) ∧ Goes I' u w' F) :
    Calls Tryz.prog 15 #[.pointer (some ⟨l, 0, none⟩), .int .i64 (i : Int), .agg #[.int .u64 (T : Int), .slice (some ⟨g, 0, none⟩) 1 1]] w fun r w' => r = .returned (.int .i64 n) ∧ Goes I' w w' F := by
  have hmf : ∀ (fn : Fn) (first cap : Array Value) (w : World), (Instr.makeFunc fn first cap).run Tryz.prog w = .ok (.func fn first cap) w := fun _ _ _ _ => rfl
  obtain ⟨q, hq⟩ : ∃ q, w.heap.size = q := ⟨_, rfl⟩
  obtain ⟨wT, hwT⟩ : ∃ u, ((w.alloc (logO l)).alloc (numO (i : Int))).alloc (entO T g) = u := ⟨_, rfl⟩
  have b1 : Below w.heap.size w (w.alloc (logO l)) := (Below.refl _ _).alloc (Nat.le_refl _) _
  have b2 := b1.alloc b1.size (numO (i : Int))
  have b3 := b2.alloc b2.size (entO T g)
  have hn0 := (Below.heap_alloc _ (entO T g) w.heap.size (by simp; omega)).trans ((Below.heap_alloc _ (numO (i : Int)) w.heap.size (by simp)).trans (heap_new w (logO l)))
  have hn1 := (Below.heap_alloc _ (entO T g) (w.alloc (logO l)).heap.size (by simp)).trans (heap_new (w.alloc (logO l)) (numO (i : Int)))
  have hn2 := heap_new ((w.alloc (logO l)).alloc (numO (i : Int))) (entO T g)
  rw [World.size_alloc, hq] at hn1
  rw [World.size_alloc, World.size_alloc, hq] at hn2
  rw [hq] at hn0
  rw [hwT] at hn0 hn1 hn2 b3
  have hbT : Below w.heap.size w wT := b3
  have HD : Hid (Calls Tryz.prog 35 #[.func (.func 36) #[] #[.pointer (some ⟨q, 0, none⟩), .pointer (some ⟨q + 1, 0, none⟩), .pointer (some ⟨q + 2, 0, none⟩)]] wT fun r w' => r = .returned (.int .i64 n) ∧ Goes I' wT w' F) := by
    refine done3_goes_err R 36 _ _ _ n wT (fun j hj => Nat.lt_of_lt_of_le (hF j hj) hbT.size) (enters_of Tryz.func36 (by kernel_rfl) rfl _) fun u hu => ?_
    have HC : Hid (Calls Tryz.prog 37 #[.pointer (some ⟨l, 0, none⟩), .int .i64 (i : Int), .agg #[.int .u64 (T : Int), .slice (some ⟨g, 0, none⟩) 1 1]] u fun r w' => r = .panicked (mis n) ∧ Goes I' u w' F) := h u (hbT.trans (hu.mono hbT.size))
    have h0 := (hu.block _ (lt_of hn0)).trans hn0
    have h1 := (hu.block _ (lt_of hn1)).trans hn1
    have h2 := (hu.block _ (lt_of hn2)).trans hn2
    have d0 : u.cell? ⟨q, 0, none⟩ = some (.pointer (some ⟨l, 0, none⟩)) := by rw [cell_of h0]; rfl
    have d1 : u.cell? ⟨q + 1, 0, none⟩ = some (.int .i64 (i : Int)) := by rw [cell_of h1]; rfl
    have d2 : u.cell? ⟨q + 2, 0, none⟩ = some (.int .u64 (T : Int)) := by rw [cell_of h2]; rfl
    have d3 : u.cell? ⟨q + 2, 1, none⟩ = some (.slice (some ⟨g, 0, none⟩) 1 1) := by rw [cell_of h2]; rfl
    clear h hn0 hn1 hn2 h0 h1 h2 hwT hbT b1 b2 b3 hu
    go_enter Tryz.func36, Tryz.ntmps36
    go_wp2_with fail
    refine HC.out.mono ?_
    rintro r w1 ⟨rfl, hg⟩
    exact ⟨rfl, rfl, hg⟩
  have HW : Hid (((w.alloc (logO l)).alloc (numO (i : Int))).alloc (entO T g) = wT) := hwT
  have HB : Hid (Below w.heap.size w wT) := hbT
  clear h hn0 hn1 hn2 hbT hwT b1 b2 b3
  go_enter Tryz.func15, Tryz.ntmps15
  go_wp2_with fail
  rw [HW.out]
  refine HD.out.mono ?_
  rintro r w2 ⟨rfl, hg⟩
  go_wp2_with fail
  go_ret
  exact ⟨rfl, hg.after HB.out⟩

set_option maxRecDepth 100000 in
set_option maxHeartbeats 1000000 in
theorem jFlush_ok (R : Res I') (l : Nat) (i : Int) (w : World) (hF : ∀ i, F i → i < w.heap.size) (h : ∀ u, Below w.heap.size w u → Calls Tryz.prog 39 #[.pointer (some ⟨l, 0, none⟩), .int .i64 i] u fun r w' => r = .returned (.tuple #[]) ∧ Goes I' u w' F) :
    Calls Tryz.prog 16 #[.pointer (some ⟨l, 0, none⟩), .int .i64 i] w fun r w' => r = .returned (.int .i64 0) ∧ Goes I' w w' F := by
  have hmf : ∀ (fn : Fn) (first cap : Array Value) (w : World), (Instr.makeFunc fn first cap).run Tryz.prog w = .ok (.func fn first cap) w := fun _ _ _ _ => rfl
  obtain ⟨q, hq⟩ : ∃ q, w.heap.size = q := ⟨_, rfl⟩
  obtain ⟨wT, hwT⟩ : ∃ u, (w.alloc (logO l)).alloc (numO i) = u := ⟨_, rfl⟩
  have b1 : Below w.heap.size w (w.alloc (logO l)) := (Below.refl _ _).alloc (Nat.le_refl _) _
  have b2 := b1.alloc b1.size (numO i)
  have hn0 := (Below.heap_alloc _ (numO i) w.heap.size (by simp)).trans (heap_new w (logO l))
  have hn1 := heap_new (w.alloc (logO l)) (numO i)
  rw [World.size_alloc, hq] at hn1
  rw [hq] at hn0
  rw [hwT] at hn0 hn1 b2
  have hbT : Below w.heap.size w wT := b2
  have HD : Hid (Calls Tryz.prog 35 #[.func (.func 38) #[] #[.pointer (some ⟨q, 0, none⟩), .pointer (some ⟨q + 1, 0, none⟩)]] wT fun r w' => r = .returned (.int .i64 0) ∧ Goes I' wT w' F) := by
    refine done2_goes_ok R 38 _ _ wT (fun j hj => Nat.lt_of_lt_of_le (hF j hj) hbT.size) (enters_of Tryz.func38 (by kernel_rfl) rfl _) fun u hu => ?_
    have HC : Hid (Calls Tryz.prog 39 #[.pointer (some ⟨l, 0, none⟩), .int .i64 i] u fun r w' => r = .returned (.tuple #[]) ∧ Goes I' u w' F) := h u (hbT.trans (hu.mono hbT.size))
    have h0 := (hu.block _ (lt_of hn0)).trans hn0
    have h1 := (hu.block _ (lt_of hn1)).trans hn1
    have d0 : u.cell? ⟨q, 0, none⟩ = some (.pointer (some ⟨l, 0, none⟩)) := by rw [cell_of h0]; rfl
    have d1 : u.cell? ⟨q + 1, 0, none⟩ = some (.int .i64 i) := by rw [cell_of h1]; rfl
    clear h hn0 hn1 h0 h1 hwT hbT b1 b2 hu
    go_enter Tryz.func38, Tryz.ntmps38
    go_wp2_with fail
    refine HC.out.mono ?_
    rintro r w1 ⟨rfl, hg⟩
    go_wp2_with fail
    go_end0
    exact ⟨rfl, hg⟩
  have HW : Hid ((w.alloc (logO l)).alloc (numO i) = wT) := hwT
  have HB : Hid (Below w.heap.size w wT) := hbT
  clear h hn0 hn1 hbT hwT b1 b2
  go_enter Tryz.func16, Tryz.ntmps16
  go_wp2_with fail
  rw [HW.out]
  refine HD.out.mono ?_
  rintro r w2 ⟨rfl, hg⟩
  go_wp2_with fail
  go_ret
  exact ⟨rfl, hg.after HB.out⟩

set_option maxRecDepth 100000 in
set_option maxHeartbeats 1000000 in
theorem jMark_ok (R : Res I') (l : Nat) (i : Int) (w : World) (hF : ∀ i, F i → i < w.heap.size) (h : ∀ u, Below w.heap.size w u → Calls Tryz.prog 41 #[.pointer (some ⟨l, 0, none⟩), .int .i64 i] u fun r w' => r = .returned (.tuple #[]) ∧ Goes I' u w' F) :
    Calls Tryz.prog 17 #[.pointer (some ⟨l, 0, none⟩), .int .i64 i] w fun r w' => r = .returned (.int .i64 0) ∧ Goes I' w w' F := by
  have hmf : ∀ (fn : Fn) (first cap : Array Value) (w : World), (Instr.makeFunc fn first cap).run Tryz.prog w = .ok (.func fn first cap) w := fun _ _ _ _ => rfl
  obtain ⟨q, hq⟩ : ∃ q, w.heap.size = q := ⟨_, rfl⟩
  obtain ⟨wT, hwT⟩ : ∃ u, (w.alloc (logO l)).alloc (numO i) = u := ⟨_, rfl⟩
  have b1 : Below w.heap.size w (w.alloc (logO l)) := (Below.refl _ _).alloc (Nat.le_refl _) _
  have b2 := b1.alloc b1.size (numO i)
  have hn0 := (Below.heap_alloc _ (numO i) w.heap.size (by simp)).trans (heap_new w (logO l))
  have hn1 := heap_new (w.alloc (logO l)) (numO i)
  rw [World.size_alloc, hq] at hn1
  rw [hq] at hn0
  rw [hwT] at hn0 hn1 b2
  have hbT : Below w.heap.size w wT := b2
  have HD : Hid (Calls Tryz.prog 35 #[.func (.func 40) #[] #[.pointer (some ⟨q, 0, none⟩), .pointer (some ⟨q + 1, 0, none⟩)]] wT fun r w' => r = .returned (.int .i64 0) ∧ Goes I' wT w' F) := by
    refine done2_goes_ok R 40 _ _ wT (fun j hj => Nat.lt_of_lt_of_le (hF j hj) hbT.size) (enters_of Tryz.func40 (by kernel_rfl) rfl _) fun u hu => ?_
    have HC : Hid (Calls Tryz.prog 41 #[.pointer (some ⟨l, 0, none⟩), .int .i64 i] u fun r w' => r = .returned (.tuple #[]) ∧ Goes I' u w' F) := h u (hbT.trans (hu.mono hbT.size))
    have h0 := (hu.block _ (lt_of hn0)).trans hn0
    have h1 := (hu.block _ (lt_of hn1)).trans hn1
    have d0 : u.cell? ⟨q, 0, none⟩ = some (.pointer (some ⟨l, 0, none⟩)) := by rw [cell_of h0]; rfl
    have d1 : u.cell? ⟨q + 1, 0, none⟩ = some (.int .i64 i) := by rw [cell_of h1]; rfl
    clear h hn0 hn1 h0 h1 hwT hbT b1 b2 hu
    go_enter Tryz.func40, Tryz.ntmps40
    go_wp2_with fail
    refine HC.out.mono ?_
    rintro r w1 ⟨rfl, hg⟩
    go_wp2_with fail
    go_end0
    exact ⟨rfl, hg⟩
  have HW : Hid ((w.alloc (logO l)).alloc (numO i) = wT) := hwT
  have HB : Hid (Below w.heap.size w wT) := hbT
  clear h hn0 hn1 hbT hwT b1 b2
  go_enter Tryz.func17, Tryz.ntmps17
  go_wp2_with fail
  rw [HW.out]
  refine HD.out.mono ?_
  rintro r w2 ⟨rfl, hg⟩
  go_wp2_with fail
  go_ret
  exact ⟨rfl, hg.after HB.out⟩

set_option maxRecDepth 100000 in
set_option maxHeartbeats 1000000 in
theorem jMark_err (n : Int) (R : Res I') (l : Nat) (i : Int) (w : World) (hF : ∀ i, F i → i < w.heap.size) (h : ∀ u, Below w.heap.size w u → Calls Tryz.prog 41 #[.pointer (some ⟨l, 0, none⟩), .int .i64 i] u fun r w' => r = .panicked (mis n) ∧ Goes I' u w' F) :
    Calls Tryz.prog 17 #[.pointer (some ⟨l, 0, none⟩), .int .i64 i] w fun r w' => r = .returned (.int .i64 n) ∧ Goes I' w w' F := by
  have hmf : ∀ (fn : Fn) (first cap : Array Value) (w : World), (Instr.makeFunc fn first cap).run Tryz.prog w = .ok (.func fn first cap) w := fun _ _ _ _ => rfl
  obtain ⟨q, hq⟩ : ∃ q, w.heap.size = q := ⟨_, rfl⟩
  obtain ⟨wT, hwT⟩ : ∃ u, (w.alloc (logO l)).alloc (numO i) = u := ⟨_, rfl⟩
  have b1 : Below w.heap.size w (w.alloc (logO l)) := (Below.refl _ _).alloc (Nat.le_refl _) _
  have b2 := b1.alloc b1.size (numO i)
  have hn0 := (Below.heap_alloc _ (numO i) w.heap.size (by simp)).trans (heap_new w (logO l))
  have hn1 := heap_new (w.alloc (logO l)) (numO i)
  rw [World.size_alloc, hq] at hn1
  rw [hq] at hn0
  rw [hwT] at hn0 hn1 b2
  have hbT : Below w.heap.size w wT := b2
  have HD : Hid (Calls Tryz.prog 35 #[.func (.func 40) #[] #[.pointer (some ⟨q, 0, none⟩), .pointer (some ⟨q + 1, 0, none⟩)]] wT fun r w' => r = .returned (.int .i64 n) ∧ Goes I' wT w' F) := by
    refine done2_goes_err R 40 _ _ n wT (fun j hj => Nat.lt_of_lt_of_le (hF j hj) hbT.size) (enters_of Tryz.func40 (by kernel_rfl) rfl _) fun u hu => ?_
    have HC : Hid (Calls Tryz.prog 41 #[.pointer (some ⟨l, 0, none⟩), .int .i64 i] u fun r w' => r = .panicked (mis n) ∧ Goes I' u w' F) := h u (hbT.trans (hu.mono hbT.size))
    have h0 := (hu.block _ (lt_of hn0)).trans hn0
    have h1 := (hu.block _ (lt_of hn1)).trans hn1
    have d0 : u.cell? ⟨q, 0, none⟩ = some (.pointer (some ⟨l, 0, none⟩)) := by rw [cell_of h0]; rfl
    have d1 : u.cell? ⟨q + 1, 0, none⟩ = some (.int .i64 i) := by rw [cell_of h1]; rfl
    clear h hn0 hn1 h0 h1 hwT hbT b1 b2 hu
    go_enter Tryz.func40, Tryz.ntmps40
    go_wp2_with fail
    refine HC.out.mono ?_
    rintro r w1 ⟨rfl, hg⟩
    exact ⟨rfl, rfl, hg⟩
  have HW : Hid ((w.alloc (logO l)).alloc (numO i) = wT) := hwT
  have HB : Hid (Below w.heap.size w wT) := hbT
  clear h hn0 hn1 hbT hwT b1 b2
  go_enter Tryz.func17, Tryz.ntmps17
  go_wp2_with fail
  rw [HW.out]
  refine HD.out.mono ?_
  rintro r w2 ⟨rfl, hg⟩
  go_wp2_with fail
  go_ret
  exact ⟨rfl, hg.after HB.out⟩

end
end Go.Proofs.YtigegdelhpdlhaaGreatDoor
