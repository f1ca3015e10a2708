/- Calls that came in, with what the form says of their sizes. -/
import Derived.Test.YtbiombolpfhdlaaActs
import Derived.SizedLaws
namespace Go.Proofs.Ytbiombolpfhdlaa
open Go.ChangeShapes Go.WideShapes Go.ChangeAt Go.RowKit Go.Joins

structure ActSz (x : ActV) : Prop where
  data : x.data.size ≤ reachBytes
  nil : ∀ c, x.dv = .slice none x.ds.length c → c = 0
  many : x.ds.length * 8 ≤ reachBytes

theorem bytesInt : Try.prog.bytesOf 3 = 8 := by kernel_rfl

theorem draws_sized {H : Type} {enc : TypeId × Value → H} {W : World} {fuel : Nat} {v : Value} {x : DataW H × List MemPlace} (hf : DataW.trod enc Try.prog W 0 (fun _ => true) true fuel 29 [v] = some x) (hw : ∀ n ∈ x.1.weights Try.prog 29, n ≤ reachBytes) :
    ∃ a ds c, v = .slice a ds.length c ∧ DrawsAt W (fun i => W.heap.size ≤ i) (.slice a ds.length c) ds ∧ (a = none → c = 0) ∧ ds.length * 8 ≤ reachBytes := by
  rcases open_ints Try.underlying29 Try.underlying3 (by kernel_rfl) hf with ⟨hcs, _⟩ | ⟨a, l, c, zs, hcs, _, hl, hm, hz, hxe, hcell, hwz⟩
  · obtain rfl : v = .slice none 0 0 := by simpa using hcs
    exact ⟨none, [], 0, rfl, ⟨none, 0, rfl, Nat.le_refl _, Nat.zero_le _, fun h => absurd rfl h, by simp⟩, fun _ => rfl, Nat.zero_le _⟩
  · have hz : zs.length = c := by simpa using hz
    have hlen : (zs.take l).length = l := by simp; omega
    obtain rfl : v = .slice (some a) l c := by simpa using hcs
    have hsz : l * 8 ≤ reachBytes := by
      have h1 := hw ((lits (H := H) .i64 (zs.take l)).length * 8 + (lits (H := H) .i64 (zs.drop l)).length * 8) (by
        rw [hxe]
        simp [DataW.weights, Try.underlying29, bytesInt, Nat.add_mul])
      have h2 : (lits (H := H) .i64 (zs.take l)).length = l := by simp [lits]; omega
      rw [h2] at h1
      omega
    refine ⟨some a, zs.take l, c, by rw [hlen], ⟨some a, c, rfl, by rw [hlen]; exact hl, hm, fun hne => ?_, fun y hy => (bounds_i64 (hwz y (List.mem_of_mem_take hy))).2⟩, (fun h => by cases h), by rw [hlen]; exact hsz⟩
    have hpos : 0 < l := by
      rw [← hlen]
      exact List.length_pos_iff.2 hne
    obtain ⟨b, off, rfl, hc⟩ := ints_at hcell (by omega)
    have hb : b < W.heap.size := by
      have h0 := hc 0 (by omega)
      unfold World.cell? at h0
      cases hh : W.heap[b]? with
      | none => simp [hh] at h0
      | some o => exact lt_of hh
    refine ⟨b, off, rfl, hb, by omega, fun i hi => ?_⟩
    rw [hlen] at hi
    rw [hc i (by omega)]
    simp [List.getD, hi]

theorem trod_struct5x {H : Type} {enc : TypeId × Value → H} {P : Program} {w : World} {base : Nat} {spare : Nat → Bool} {held : Bool} {t : TypeId} {f0 f1 f2 f3 f4 : Field} {fuel : Nat} {cs : List Value} {x : DataW H × List MemPlace} (ht : P.underlying t = some (.struct #[f0, f1, f2, f3, f4])) (h : DataW.trod enc P w base spare held fuel t cs = some x) :
    ∃ y0 y1 y2 y3 y4 n, x.1 = .agg [y0.1, y1.1, y2.1, y3.1, y4.1] ∧ DataW.trod enc P w base spare held n f0.type ((cs.drop f0.offset).take (P.cellsOf f0.type)) = some y0 ∧ DataW.trod enc P w base spare held n f1.type ((cs.drop f1.offset).take (P.cellsOf f1.type)) = some y1 ∧
      DataW.trod enc P w base spare held n f2.type ((cs.drop f2.offset).take (P.cellsOf f2.type)) = some y2 ∧ DataW.trod enc P w base spare held n f3.type ((cs.drop f3.offset).take (P.cellsOf f3.type)) = some y3 ∧ DataW.trod enc P w base spare held n f4.type ((cs.drop f4.offset).take (P.cellsOf f4.type)) = some y4 := by
  obtain ⟨xs, n, _, rfl, hl, hlen, hf⟩ := DataW.trod_struct ht h
  match xs, hlen with
  | [y0, y1, y2, y3, y4], _ => exact ⟨y0, y1, y2, y3, y4, n, rfl, by simpa using hf 0 f0 rfl, by simpa using hf 1 f1 rfl, by simpa using hf 2 f2 rfl, by simpa using hf 3 f3 rfl, by simpa using hf 4 f4 rfl⟩

set_option maxRecDepth 100000 in
theorem act_sized {H : Type} {enc : TypeId × Value → H} {W : World} {n : Nat} {A : Addr} {cs : List Value} {y : DataW H × List MemPlace} (hc : W.cells? 0 A 5 = some cs) (ht : DataW.trod enc Try.prog W 0 (fun _ => true) true n 31 cs = some y) (hw : ∀ n ∈ y.1.weights Try.prog 31, n ≤ reachBytes) :
    ∃ x : ActV, (ActOk W x ∧ ActSz x) ∧ W.cell? (A.add 0) = some (.int .i64 x.kind) ∧ W.cell? (A.add 1) = some (.string x.name) ∧ W.cell? (A.add 2) = some (.string x.data) ∧ W.cell? (A.add 3) = some (.int .i64 x.num) ∧ W.cell? (A.add 4) = some x.dv := by
  obtain ⟨_, hlen, hcell⟩ := World.cells?_some hc
  obtain ⟨y0, y1, y2, y3, y4, m, ye, h0, h1, h2, h3, h4⟩ := trod_struct5x Try.underlying31 ht
  have hw2 : ∀ n ∈ y2.1.weights Try.prog 9, n ≤ reachBytes := fun n hn => hw n (by
    rw [ye]
    simp only [DataW.weights, Try.underlying31]
    exact DataW.weights_mem_each (j := 2) rfl rfl n hn)
  have hw4 : ∀ n ∈ y4.1.weights Try.prog 29, n ≤ reachBytes := fun n hn => hw n (by
    rw [ye]
    simp only [DataW.weights, Try.underlying31]
    exact DataW.weights_mem_each (j := 4) rfl rfl n hn)
  match cs, hlen with
  | [v0, v1, v2, v3, v4], _ =>
    simp only [cellsInt, cellsStr, cellsInts, List.drop_zero, List.drop_succ_cons, List.take_succ_cons, List.take_zero] at h0 h1 h2 h3 h4
    obtain ⟨k, e0, _, _⟩ := DataW.trod_int Try.underlying3 h0
    obtain ⟨nm, e1, _, wn⟩ := DataW.trod_string Try.underlying9 h1
    obtain ⟨dt, e2, x2, wd⟩ := DataW.trod_string Try.underlying9 h2
    obtain ⟨nu, e3, _, wu⟩ := DataW.trod_int Try.underlying3 h3
    obtain ⟨a, dl, c, e4, hd, hn, hs⟩ := draws_sized h4 hw4
    have hds : dt.size ≤ reachBytes := hw2 dt.size (by rw [x2]; simp [DataW.weights])
    simp only [List.cons.injEq, and_true] at e0 e1 e2 e3
    refine ⟨⟨k, nm, dt, nu, v4, dl⟩, ⟨⟨wn, wd, (bounds_i64 wu).2, e4 ▸ hd⟩, ⟨hds, fun c' hc' => ?_, hs⟩⟩, ?_, ?_, ?_, ?_, ?_⟩
    · have hc' : v4 = .slice none dl.length c' := hc'
      rw [e4] at hc'
      cases hc'
      exact hn rfl
    · rw [hcell 0 (by omega), ← e0]; rfl
    · rw [hcell 1 (by omega), ← e1]; rfl
    · rw [hcell 2 (by omega), ← e2]; rfl
    · rw [hcell 3 (by omega), ← e3]; rfl
    · rw [hcell 4 (by omega)]; rfl

theorem weights_all_mem {H : Type} {P : Program} {e : TypeId} {d : DataW H} {n : Nat} (hn : n ∈ d.weights P e) : ∀ {l : List (DataW H)}, d ∈ l → n ∈ DataW.weightsAll P e l
  | y :: r, h => by
    simp only [DataW.weightsAll, List.mem_append]
    rcases List.mem_cons.1 h with rfl | h
    · exact Or.inl hn
    · exact Or.inr (weights_all_mem hn h)

theorem acts_sized {H : Type} {enc : TypeId × Value → H} {W : World} {fuel : Nat} {v : Value} {x : DataW H × List MemPlace} (hf : DataW.trod enc Try.prog W 0 (fun _ => true) true fuel 22 [v] = some x) (hw : ∀ n ∈ x.1.weights Try.prog 22, n ≤ reachBytes) : ∃ L, ActsAt W v L ∧ ∀ y ∈ L, ActSz y := by
  rcases Go.Deep.open_slice Try.underlying22 hf with ⟨hcs, _⟩ | ⟨a, len, cap, m, n, D, Pl, hcs, _, hl, hm, hmm, hxe, hx⟩
  · obtain rfl : v = .slice none 0 0 := by simpa using hcs
    exact ⟨[], ⟨none, 0, rfl, Nat.le_refl _, Nat.zero_le _, fun h => absurd rfl h, by simp⟩, by simp⟩
  · have hmm : m = cap := by simpa using hmm
    obtain rfl : v = .slice (some a) len cap := by simpa using hcs
    have hwD : ∀ i, i < len → ∀ n ∈ (D i).weights Try.prog 31, n ≤ reachBytes := fun i hi n hn => hw n (by
      rw [hxe]
      simp only [DataW.weights, Try.underlying22, List.mem_cons, List.mem_append]
      exact Or.inr (Or.inl (weights_all_mem hn (List.mem_map.2 ⟨i, List.mem_range.2 hi, rfl⟩))))
    rw [cellsAct] at hx
    obtain ⟨L, hL, hp⟩ := list_choose (p := fun i (x : ActV) => (ActOk W x ∧ ActSz x) ∧ W.cell? ((a.add (i * 5)).add 0) = some (.int .i64 x.kind) ∧ W.cell? ((a.add (i * 5)).add 1) = some (.string x.name) ∧ W.cell? ((a.add (i * 5)).add 2) = some (.string x.data) ∧ W.cell? ((a.add (i * 5)).add 3) = some (.int .i64 x.num) ∧ W.cell? ((a.add (i * 5)).add 4) = some x.dv) len (fun i hi => by
      obtain ⟨cs', h1, h2⟩ := hx i (by omega)
      exact act_sized h1 h2 (hwD i hi))
    subst hL
    refine ⟨L, ⟨some a, cap, rfl, hl, hm, fun hne => ?_, fun x hx' => ?_⟩, fun x hx' => ?_⟩
    · have hpos : 0 < L.length := List.length_pos_iff.2 hne
      obtain ⟨b, off, spot⟩ := a
      have hspot : spot = none := by
        have h0 := (hp 0 hpos).2.1
        simpa [Addr.add] using World.cell?_spot h0
      subst hspot
      have hb : b < W.heap.size := by
        have h0 := (hp 0 hpos).2.1
        simp only [Addr.add_lit] at h0
        unfold World.cell? at h0
        cases hh : W.heap[b]? with
        | none => simp [hh] at h0
        | some o => exact lt_of hh
      refine ⟨b, off, rfl, hb, fun i hi => ?_⟩
      obtain ⟨_, g0, g1, g2, g3, g4⟩ := hp i hi
      simp only [Addr.add_lit, Nat.add_zero] at g0 g1 g2 g3 g4
      exact ⟨g0, g1, g2, g3, g4⟩
    · obtain ⟨i, hi, rfl⟩ := List.getElem_of_mem hx'
      exact (hp i hi).1.1
    · obtain ⟨i, hi, rfl⟩ := List.getElem_of_mem hx'
      exact (hp i hi).1.2

end Go.Proofs.Ytbiombolpfhdlaa
