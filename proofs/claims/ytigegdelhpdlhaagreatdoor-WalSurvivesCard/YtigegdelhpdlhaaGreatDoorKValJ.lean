import Derived.Test.YtigegdelhpdlhaaGreatDoorProg
import Derived.Test.YtigegdelhpdlhaaGreatDoorBase
import Derived.WalkLawsBesides
import Derived.Laws.Externs
import Derived.Handy
import Derived.ProofKit
import Derived.OpenShut
import Derived.ShutString
import Derived.ChangeOld
import Derived.Deep.Slices
import Derived.SizedLaws
/- Values that may be: the two of the chapter's examples. -/
namespace Go.Proofs.YtigegdelhpdlhaaGreatDoor
open Go.RowKit

/-- a value of the layer's, with no pair -/
def val (k n : Int) (s : ByteArray) : Value := .agg #[.int .i64 k, .int .i64 n, .complex .f64 0 0, .string s]

theorem bits_law (b : Nat) (w : World) : (callFunc 127 #[.float .f64 b]).run Tryz.prog w = .ok (.value (.int .u64 b)) w := by
  rw [run_callFunc_extern Tryz.func127 (by kernel_rfl) (by kernel_rfl) (by kernel_rfl) (e := Extern.MathFloatBits.float64bits) (by kernel_rfl)]
  rfl

set_option maxHeartbeats 400000 in
theorem plusZero_any (w : World) : Calls Tryz.prog 157 #[.float .f64 0] w fun e w' => e = .returned (.bool true) ∧ w' = w := by
  have hl := bits_law
  go_enter Tryz.func157, Tryz.ntmps157
  go_wp2
  go_ret
  exact ⟨rfl, rfl⟩

set_option maxHeartbeats 400000 in
theorem nothing_any (w : World) : Calls Tryz.prog 155 #[.complex .f64 0 0] w fun e w' => e = .returned (.bool true) ∧ w' = w := by
  go_enter Tryz.func155, Tryz.ntmps155
  go_wp2_with (go_at_call 157; refine (plusZero_any _).mono ?_; rintro e w' ⟨rfl, rfl⟩)
  go_ret
  exact ⟨rfl, rfl⟩

set_option maxHeartbeats 400000 in
theorem mayBe_int (n : Int) (w : World) : Calls Tryz.prog 130 #[val 2 n ByteArray.empty] w fun e w' => e = .returned (.bool true) ∧ Below w.heap.size w w' := by
  unfold val
  go_enter Tryz.func130, Tryz.ntmps130
  go_wp2_with (go_at_call 155; refine (nothing_any _).mono ?_; rintro e w' ⟨rfl, rfl⟩)
  go_ret
  refine ⟨rfl, ?_⟩
  go_grown

set_option maxHeartbeats 400000 in
theorem mayBe_text (s : ByteArray) (hs : s.size ≤ 4096) (w : World) : Calls Tryz.prog 130 #[val 5 0 s] w fun e w' => e = .returned (.bool true) ∧ Below w.heap.size w w' := by
  unfold val
  go_enter Tryz.func130, Tryz.ntmps130
  go_wp2_with (go_at_call 155; refine (nothing_any _).mono ?_; rintro e w' ⟨rfl, rfl⟩)
  go_ret
  refine ⟨congrArg (fun b => Ending.returned (Value.bool b)) (decide_eq_true (by omega)), ?_⟩
  go_grown

theorem store_law {P : Program} {w : World} {a : Addr} {m : Mode} (k : FloatKind) (x y : Nat) : (store a (.complex k x y) m).run P w = stored P w a (.complex k x y) m := run_store P w a _ m rfl

/-- a slice of one value, and no more -/
def OneAt (w : World) (b : Nat) (k n : Int) (s : ByteArray) : Prop :=
  b < w.heap.size ∧ w.cell? ⟨b, 0, none⟩ = some (.int .i64 k) ∧ w.cell? ⟨b, 1, none⟩ = some (.int .i64 n) ∧ w.cell? ⟨b, 2, none⟩ = some (.complex .f64 0 0) ∧ w.cell? ⟨b, 3, none⟩ = some (.string s)

theorem OneAt.below {w w' : World} {b : Nat} {k n : Int} {s : ByteArray} (h : OneAt w b k n s) (hb : Below w.heap.size w w') : OneAt w' b k n s := by
  obtain ⟨h0, h1, h2, h3, h4⟩ := h
  exact ⟨Nat.lt_of_lt_of_le h0 hb.size, (hb.cell h0).trans h1, (hb.cell h0).trans h2, (hb.cell h0).trans h3, (hb.cell h0).trans h4⟩

set_option maxHeartbeats 400000 in
theorem check_one (b : Nat) (k n : Int) (s : ByteArray) (w : World) (hv : OneAt w b k n s)
    (hm : ∀ u, Calls Tryz.prog 130 #[val k n s] u fun e w' => e = .returned (.bool true) ∧ Below u.heap.size u w') :
    Calls Tryz.prog 108 #[.slice (some ⟨b, 0, none⟩) 1 1] w fun e w' => e = .returned (.tuple #[.int .i64 0, .int .i64 0]) ∧ Below w.heap.size w w' := by
  have HM : Hid (∀ u, Calls Tryz.prog 130 #[val k n s] u fun e w' => e = .returned (.bool true) ∧ Below u.heap.size u w') := hm
  obtain ⟨h0, h1, h2, h3, h4⟩ := hv
  unfold val at HM
  clear hm
  have hsl := @store_law
  go_enter Tryz.func108, Tryz.ntmps108
  go_wp2_with fail
  refine wp_loop_rounds 2 ?_
  rw [rounds_succ]
  go_wp2_with (go_at_call 130; refine (HM.out _).mono ?_; rintro e w1 ⟨rfl, hw1⟩)
  rw [rounds_succ]
  go_wp2_with fail
  go_ret2
  refine ⟨rfl, Below.trans ?_ (hw1.mono ?_)⟩
  · go_grown
  · simp

end Go.Proofs.YtigegdelhpdlhaaGreatDoor

/- Slices that came in, read as lists of plain things. Nothing here speaks of a program. -/
namespace Go.Proofs.YtigegdelhpdlhaaGreatDoor
open Go.ChangeShapes Go.WideShapes Go.ChangeAt Go.RowKit

/-- v is a slice of the things L, each of n cells -/
def SliceAt {α : Type} (w : World) (v : Value) (n : Nat) (en : α → List Value) (L : List α) : Prop :=
  ∃ a c, v = .slice a L.length c ∧ L.length ≤ c ∧ c ≤ maxLen ∧ (L ≠ [] → ∃ b off, a = some ⟨b, off, none⟩ ∧ b < w.heap.size ∧ ∀ i, (h : i < L.length) → ∀ (j : Nat) (u : Value), (en L[i])[j]? = some u → w.cell? ⟨b, off + i * n + j, none⟩ = some u)

theorem list_choose {α : Type} {p : Nat → α → Prop} : ∀ (n : Nat), (∀ i, i < n → ∃ x, p i x) → ∃ L : List α, L.length = n ∧ ∀ i, (h : i < L.length) → p i L[i]
  | 0, _ => ⟨[], rfl, fun i h => by simp at h⟩
  | n + 1, h => by
    obtain ⟨L, hl, hL⟩ := list_choose n (fun i hi => h i (by omega))
    obtain ⟨x, hx⟩ := h n (by omega)
    refine ⟨L ++ [x], by simp [hl], fun i hi => ?_⟩
    by_cases e : i < L.length
    · rw [List.getElem_append_left e]; exact hL i e
    · have ei : i = L.length := by simp at hi; omega
      subst ei
      rw [List.getElem_append_right (Nat.le_refl _)]
      simp only [Nat.sub_self, List.getElem_cons_zero]
      rw [hl]
      exact hx

theorem weights_all_mem {H : Type} {P : Program} {e : TypeId} {d : DataW H} {n : Nat} (hn : n ∈ d.weights P e) : ∀ {l : List (DataW H)}, d ∈ l → n ∈ DataW.weightsAll P e l
  | y :: r, h => by
    simp only [DataW.weightsAll, List.mem_append]
    rcases List.mem_cons.1 h with rfl | h
    · exact Or.inl hn
    · exact Or.inr (weights_all_mem hn h)

theorem open_rows {P : Program} {H : Type} {ec : TypeId × Value → H} {W : World} {fuel : Nat} {T E : TypeId} {n : Nat} {v : Value} {x : DataW H × List MemPlace} (hT : P.underlying T = some (.slice E)) (hn : P.cellsOf E = n) (hpos : 0 < n)
    (hf : DataW.trod ec P W 0 (fun _ => true) true fuel T [v] = some x) (hw : ∀ k ∈ x.1.weights P T, k ≤ reachBytes) {α : Type} (en : α → List Value) (ok : α → Prop)
    (hQ : ∀ (m : Nat) (cs : List Value) (y : DataW H × List MemPlace), cs.length = n → DataW.trod ec P W 0 (fun _ => true) true m E cs = some y → (∀ k ∈ y.1.weights P E, k ≤ reachBytes) → ∃ a : α, en a = cs ∧ ok a) :
    ∃ L : List α, SliceAt W v n en L ∧ ∀ a ∈ L, ok a := by
  rcases Go.Deep.open_slice hT hf with ⟨hcs, _⟩ | ⟨a, len, cap, m, k, D, Pl, hcs, _, hl, hm, hmm, hxe, hx⟩
  · obtain rfl : v = .slice none 0 0 := by simpa using hcs
    exact ⟨[], ⟨none, 0, rfl, Nat.le_refl _, Nat.zero_le _, fun h => absurd rfl h⟩, by simp⟩
  · have hmm : m = cap := by simpa using hmm
    obtain rfl : v = .slice (some a) len cap := by simpa using hcs
    have hwD : ∀ i, i < len → ∀ n ∈ (D i).weights P E, n ≤ reachBytes := fun i hi n hn => hw n (by
      rw [hxe]
      simp only [DataW.weights, hT, List.mem_cons, List.mem_append]
      exact Or.inr (Or.inl (weights_all_mem hn (List.mem_map.2 ⟨i, List.mem_range.2 hi, rfl⟩))))
    rw [hn] at hx
    obtain ⟨L, hL, hp⟩ := list_choose (p := fun i (z : α) => ok z ∧ (en z).length = n ∧ ∀ (j : Nat) (u : Value), (en z)[j]? = some u → W.cell? ((a.add (i * n)).add j) = some u) len (fun i hi => by
      obtain ⟨cs', h1, h2⟩ := hx i (by omega)
      obtain ⟨_, hlen, hcell⟩ := World.cells?_some h1
      obtain ⟨z, hz, hok⟩ := hQ _ cs' _ hlen h2 (hwD i hi)
      refine ⟨z, hok, by rw [hz]; exact hlen, fun j u hu => ?_⟩
      rw [hz] at hu
      rw [hcell j (by rw [← hlen]; exact (List.getElem?_eq_some_iff.1 hu).1)]
      exact hu)
    subst hL
    refine ⟨L, ⟨some a, cap, rfl, hl, hm, fun hne => ?_⟩, fun z hz => ?_⟩
    · have hpos' : 0 < L.length := List.length_pos_iff.2 hne
      obtain ⟨b, off, spot⟩ := a
      obtain ⟨_, hl0, hc0⟩ := hp 0 hpos'
      have h0 := hc0 0 _ (List.getElem?_eq_getElem (by omega))
      have hspot : spot = none := by simpa [Addr.add] using World.cell?_spot h0
      subst hspot
      have hb : b < W.heap.size := by
        simp only [Addr.add_lit] at h0
        unfold World.cell? at h0
        cases hh : W.heap[b]? with
        | none => simp [hh] at h0
        | some o => exact lt_of hh
      refine ⟨b, off, rfl, hb, fun i hi j u hu => ?_⟩
      have := (hp i hi).2.2 j u hu
      simpa only [Addr.add_lit] using this
    · obtain ⟨i, hi, rfl⟩ := List.getElem_of_mem hz
      exact (hp i hi).1

theorem trod_struct4 {H : Type} {enc : TypeId × Value → H} {P : Program} {w : World} {base : Nat} {spare : Nat → Bool} {held : Bool} {t : TypeId} {f0 f1 f2 f3 : Field} {fuel : Nat} {cs : List Value} {x : DataW H × List MemPlace} (ht : P.underlying t = some (.struct #[f0, f1, f2, f3])) (h : DataW.trod enc P w base spare held fuel t cs = some x) :
    ∃ y0 y1 y2 y3 n, x.1 = .agg [y0.1, y1.1, y2.1, y3.1] ∧ DataW.trod enc P w base spare held n f0.type ((cs.drop f0.offset).take (P.cellsOf f0.type)) = some y0 ∧ DataW.trod enc P w base spare held n f1.type ((cs.drop f1.offset).take (P.cellsOf f1.type)) = some y1 ∧
      DataW.trod enc P w base spare held n f2.type ((cs.drop f2.offset).take (P.cellsOf f2.type)) = some y2 ∧ DataW.trod enc P w base spare held n f3.type ((cs.drop f3.offset).take (P.cellsOf f3.type)) = some y3 := by
  obtain ⟨xs, n, _, rfl, hl, hlen, hf⟩ := DataW.trod_struct ht h
  match xs, hlen with
  | [y0, y1, y2, y3], _ => exact ⟨y0, y1, y2, y3, n, rfl, by simpa using hf 0 f0 rfl, by simpa using hf 1 f1 rfl, by simpa using hf 2 f2 rfl, by simpa using hf 3 f3 rfl⟩

theorem trod_struct5 {H : Type} {enc : TypeId × Value → H} {P : Program} {w : World} {base : Nat} {spare : Nat → Bool} {held : Bool} {t : TypeId} {f0 f1 f2 f3 f4 : Field} {fuel : Nat} {cs : List Value} {x : DataW H × List MemPlace} (ht : P.underlying t = some (.struct #[f0, f1, f2, f3, f4])) (h : DataW.trod enc P w base spare held fuel t cs = some x) :
    ∃ y0 y1 y2 y3 y4 n, x.1 = .agg [y0.1, y1.1, y2.1, y3.1, y4.1] ∧ DataW.trod enc P w base spare held n f0.type ((cs.drop f0.offset).take (P.cellsOf f0.type)) = some y0 ∧ DataW.trod enc P w base spare held n f1.type ((cs.drop f1.offset).take (P.cellsOf f1.type)) = some y1 ∧
      DataW.trod enc P w base spare held n f2.type ((cs.drop f2.offset).take (P.cellsOf f2.type)) = some y2 ∧ DataW.trod enc P w base spare held n f3.type ((cs.drop f3.offset).take (P.cellsOf f3.type)) = some y3 ∧ DataW.trod enc P w base spare held n f4.type ((cs.drop f4.offset).take (P.cellsOf f4.type)) = some y4 := by
  obtain ⟨xs, n, _, rfl, hl, hlen, hf⟩ := DataW.trod_struct ht h
  match xs, hlen with
  | [y0, y1, y2, y3, y4], _ => exact ⟨y0, y1, y2, y3, y4, n, rfl, by simpa using hf 0 f0 rfl, by simpa using hf 1 f1 rfl, by simpa using hf 2 f2 rfl, by simpa using hf 3 f3 rfl, by simpa using hf 4 f4 rfl⟩

end Go.Proofs.YtigegdelhpdlhaaGreatDoor

/- A row of things, each of m cells, as a flat list of cells. Nothing here speaks of a program. -/
namespace Go.Proofs.YtigegdelhpdlhaaGreatDoor
open Go.RowKit

def flat {α : Type} (en : α → List Value) (G : List α) : List Value := G.flatMap en

section
variable {α : Type} {en : α → List Value} {m : Nat}

theorem flat_cons (g : α) (G : List α) : flat en (g :: G) = en g ++ flat en G := by simp [flat]
theorem flat_append (A B : List α) : flat en (A ++ B) = flat en A ++ flat en B := by simp [flat]
theorem flat_length (hm : ∀ g, (en g).length = m) : ∀ G : List α, (flat en G).length = m * G.length
  | [] => by simp [flat]
  | g :: G => by rw [flat_cons, List.length_append, flat_length hm G, List.length_cons, hm, Nat.mul_add, Nat.mul_one, Nat.add_comm]

theorem flat_get (hm : ∀ g, (en g).length = m) : ∀ (G : List α) (i : Nat) (h : i < G.length) (f : Nat), f < m → (flat en G)[m * i + f]? = (en G[i])[f]?
  | g :: G, 0, _, f, hf => by
    rw [flat_cons, List.getElem?_append_left (by rw [hm]; omega)]
    simp
  | g :: G, i + 1, h, f, hf => by
    rw [flat_cons, List.getElem?_append_right (by rw [hm, Nat.mul_add]; omega)]
    rw [show m * (i + 1) + f - (en g).length = m * i + f from by rw [hm, Nat.mul_add]; omega]
    rw [flat_get hm G i (by simpa using h) f hf]
    simp

theorem flat_set (hm : ∀ g, (en g).length = m) : ∀ (G : List α) (i : Nat) (h : i < G.length) (f : Nat) (u : Value) (d : α), f < m → (en G[i]).set f u = en d → (flat en G).set (m * i + f) u = flat en (G.set i d)
  | g :: G, 0, _, f, u, d, hf, e => by
    rw [flat_cons, List.set_append_left _ _ (by rw [hm]; omega)]
    rw [List.set_cons_zero, flat_cons, ← e]
    simp
  | g :: G, i + 1, h, f, u, d, hf, e => by
    rw [flat_cons, List.set_append_right _ _ (by rw [hm, Nat.mul_add]; omega)]
    rw [show m * (i + 1) + f - (en g).length = m * i + f from by rw [hm, Nat.mul_add]; omega]
    rw [flat_set hm G i (by simpa using h) f u d hf (by simpa using e), List.set_cons_succ, flat_cons]

/-- one cell of a row's element is written: how the row reads behind it -/
theorem flat_row_set (hm : ∀ g, (en g).length = m) {w1 : World} {T : TypeId} {g N k o f i : Nat} {G : List α} {cur : Array Value} {d : α} {u : Value} (hg : w1.heap[g]? = some (.cells cur T (0, 0))) (hs : cur.size = N) (hl : cur.toList.take k = flat en G) (hi : i < G.length) (ho : o = m * i + f) (hf : f < m) (hd : (en G[i]).set f u = en d) :
    ∃ cur', (w1.setCell ⟨g, o, none⟩ u).heap[g]? = some (.cells cur' T (0, 0)) ∧ cur'.size = N ∧ cur'.toList.take k = flat en (G.set i d) := by
  refine ⟨_, heap_setCell_same hg o u, by simpa using hs, ?_⟩
  rw [Array.toList_setIfInBounds, List.take_set, hl, ho]
  exact flat_set hm G i hi f u d hf hd

end
end Go.Proofs.YtigegdelhpdlhaaGreatDoor
