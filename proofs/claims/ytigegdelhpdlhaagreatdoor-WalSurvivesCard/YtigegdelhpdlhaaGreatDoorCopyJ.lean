import Derived.Test.YtigegdelhpdlhaaGreatDoorProg
import Derived.Test.YtigegdelhpdlhaaGreatDoorKValJ
import Derived.OwnWalk
import Derived.Laws.AppendOwnNone
import Derived.Deep.DeepMust
import Derived.Maps.AppendAt
import Derived.Laws.MakeOwn
import Derived.Handy
import Derived.WalkMore
/- Slices that came in, copied by append onto an empty one; their sizes. -/
namespace Go.Proofs.YtigegdelhpdlhaaGreatDoor
open Go.RowKit

theorem SliceAt.below {α : Type} {w w' : World} {v : Value} {n : Nat} {en : α → List Value} {L : List α} (h : SliceAt w v n en L) (hb : Below w.heap.size w w') : SliceAt w' v n en L := by
  obtain ⟨a, c, h1, h2, h3, h4⟩ := h
  refine ⟨a, c, h1, h2, h3, fun hne => ?_⟩
  obtain ⟨b, off, e, hlt, hc⟩ := h4 hne
  exact ⟨b, off, e, Nat.lt_of_lt_of_le hlt hb.size, fun i hi j u hu => (hb.cell (p := ⟨b, off + i * n + j, none⟩) hlt).trans (hc i hi j u hu)⟩

/-- a block's beginning read as a slice -/
theorem sliceAt_flat {α : Type} {en : α → List Value} {n : Nat} (hm : ∀ g, (en g).length = n) {W : World} {b : Nat} {cur : Array Value} {t : TypeId} {fz : Nat × Nat} {L : List α} {cap : Nat} (hb : W.heap[b]? = some (.cells cur t fz)) (hc : cur.toList.take (L.length * n) = flat en L) (h1 : L.length ≤ cap) (h2 : cap ≤ maxLen) :
    SliceAt W (.slice (some ⟨b, 0, none⟩) L.length cap) n en L := by
  refine ⟨_, cap, rfl, h1, h2, fun _ => ⟨b, 0, rfl, lt_of hb, fun i hi j u hu => ?_⟩⟩
  have hj : j < n := by rw [← hm L[i]]; exact (List.getElem?_eq_some_iff.1 hu).1
  have h3 := flat_get hm L i hi j hj
  rw [← hc, hu] at h3
  have hlt : n * i + j < L.length * n := by
    have h4 : n * (i + 1) ≤ n * L.length := Nat.mul_le_mul_left _ hi
    rw [Nat.mul_add] at h4
    rw [Nat.mul_comm L.length n]
    omega
  rw [List.getElem?_take_of_lt hlt] at h3
  rw [cell_of hb, ← Array.getElem?_toList, Nat.zero_add, Nat.mul_comm i n]
  exact h3

/-- a nil slice has no room -/
def NilOk (v : Value) : Prop := ∀ k c, v = .slice none k c → c = 0

theorem nil_of {P : Program} {H : Type} {ec : TypeId × Value → H} {W : World} {fuel : Nat} {T E : TypeId} {v : Value} {x : DataW H × List MemPlace} (hT : P.underlying T = some (.slice E)) (hf : DataW.trod ec P W 0 (fun _ => true) true fuel T [v] = some x) : NilOk v := by
  intro k c e
  rcases Go.Deep.open_slice hT hf with ⟨hcs, _⟩ | ⟨a, len, cap, m, n, D, Pl, hcs, _⟩
  · obtain rfl : v = .slice none 0 0 := by simpa using hcs
    cases e; rfl
  · obtain rfl : v = .slice (some a) len cap := by simpa using hcs
    cases e

theorem info_parts {e : TypeId} {z : Value} {size bytes : Nat} (h : (Tryz.prog.info? e).map (fun i => (i.zero, i.size, i.bytes)) = some (some z, size, bytes)) : ∃ i, Tryz.prog.info? e = some i ∧ i.zero = some z ∧ i.size = size ∧ i.bytes = bytes := by
  cases hq : Tryz.prog.info? e with
  | none => rw [hq] at h; cases h
  | some i =>
    rw [hq] at h
    simp only [Option.map_some, Option.some.injEq, Prod.mk.injEq] at h
    exact ⟨i, rfl, h.1, h.2.1, h.2.2⟩

/-- append([]E{}, l...) -/
theorem append_copy {w : World} {ops : Array Oper} {rest : List Oper} {o : Oper} {a : Act} {Q : Exit → Act → World → Prop} (hgd : o.guard = none) (s x : Operand) (t : TypeId)
    (ho : o.op = .call { callee := .builtin .append, args := #[s, x], argTypes := #[t, t] })
    (base : Nat) (e : TypeId) (i : TypeInfo) (z : Value) (size bytes : Nat) (ht : Tryz.prog.underlying t = some (.slice e)) (hi : Tryz.prog.info? e = some i) (hz : i.zero = some z)
    (hsize : i.size = size) (hby : i.bytes = bytes) (hzs : z.cells.size = size) (hsz : 0 < size)
    (g : Nat) (hs : a.eval s = .slice (some ⟨g, 0, none⟩) 0 0) (hown : w.ownsRow base e size (.slice (some ⟨g, 0, none⟩) 0 0) 0 [])
    {α : Type} (en : α → List Value) (hm : ∀ y, (en y).length = size) (hone : ∀ y, ∀ u ∈ en y, u.oneCell' = true) (vx : Value) (L : List α) (hx : a.eval x = vx) (hsl : SliceAt w vx size en L) (hnil : NilOk vx)
    (h63 : L.length * bytes ≤ 140737488355328) (hbase : base ≤ w.heap.size)
    (h : ∀ v' w', w'.ownsRow base e size v' L.length (flat en L) → w.grownBy w' (some g) → wpList Tryz.prog ops Q rest (a.put o.dst v') w') : wpList Tryz.prog ops Q (o :: rest) a w := by
  obtain ⟨ax, cx, rfl, hl, hc, hxx⟩ := hsl
  cases ax with
  | none =>
    have hc0 := hnil _ _ rfl
    subst hc0
    have hL : L = [] := List.length_eq_zero_iff.1 (by omega)
    subst hL
    exact wpList_append_own_none hgd s x t ho base e i size ht hi _ 0 [] hs hown hx (h _ _ hown ⟨rfl, rfl, rfl, Nat.le_refl _, fun _ _ _ => rfl⟩)
  | some ad =>
    refine wpList_append_own _ hgd s x t ho base e i z size bytes ht hi hz hsize hby hzs hsz _ 0 [] hs hown ad L.length cx (flat en L) hx (by rw [flat_length hm, Nat.mul_comm]) (fun j u hu => ?_) (fun u hu => ?_) (by omega) (by rw [Nat.zero_add]; exact h63) hbase (fun v' w' h1 h2 _ => h v' w' (by simpa using h1) h2)
    · have hj : j < size * L.length := by rw [← flat_length hm L]; exact (List.getElem?_eq_some_iff.1 hu).1
      have hne : L ≠ [] := by intro e; subst e; simp at hj
      obtain ⟨b, off, e, _, hcs⟩ := hxx hne
      cases e
      have hq : j / size < L.length := by rw [Nat.div_lt_iff_lt_mul hsz, Nat.mul_comm]; exact hj
      have hr : j % size < size := Nat.mod_lt _ hsz
      have ej : size * (j / size) + j % size = j := Nat.div_add_mod j size
      have h1 := flat_get hm L (j / size) hq (j % size) hr
      rw [ej, hu] at h1
      have h2 := hcs (j / size) hq (j % size) u h1.symm
      rw [Addr.add_lit]
      rw [Nat.add_assoc, Nat.mul_comm (j / size) size, ej] at h2
      exact h2
    · obtain ⟨y, _, hy⟩ := List.mem_flatMap.1 hu
      exact hone y u hy

theorem own_slice {α : Type} {en : α → List Value} {n : Nat} (hm : ∀ g, (en g).length = n) {w : World} {base : Nat} {e : TypeId} {v : Value} {L : List α} (h : w.ownsRow base e n v L.length (flat en L)) : SliceAt w v n en L := by
  obtain ⟨h1, h2⟩ := h
  rcases h2 with ⟨rfl, h0⟩ | ⟨g, cap, cur, rfl, _, hg, hc, hm2, _, hx⟩
  · have : L = [] := List.length_eq_zero_iff.1 h0
    subst this
    exact ⟨none, 0, rfl, Nat.le_refl _, Nat.zero_le _, fun h => absurd rfl h⟩
  · exact sliceAt_flat hm hg hx hc hm2

theorem row_empty (w : World) (e : TypeId) (size : Nat) : (w.alloc (.cells #[] e (0, 0))).ownsRow w.heap.size e size (.slice (some ⟨w.heap.size, 0, none⟩) 0 0) 0 [] :=
  ⟨by simp, Or.inr ⟨w.heap.size, 0, #[], rfl, Nat.le_refl _, heap_new w _, Nat.le_refl _, Nat.zero_le _, by simp, by simp⟩⟩

theorem sized_of {P : Program} {H : Type} {ec : TypeId × Value → H} {W : World} {fuel : Nat} {T E : TypeId} {v : Value} {x : DataW H × List MemPlace} (hT : P.underlying T = some (.slice E)) (hf : DataW.trod ec P W 0 (fun _ => true) true fuel T [v] = some x) (hw : ∀ k ∈ x.1.weights P T, k ≤ reachBytes) {bytes : Nat} (hb : P.bytesOf E = bytes) {a : Option Addr} {l c : Nat} (hv : v = .slice a l c) : l * bytes ≤ reachBytes := by
  rcases Go.Deep.open_slice hT hf with ⟨hcs, _⟩ | ⟨a', len, cap, m, n, D, Pl, hcs, _, hl, hm, hmm, hxe, _⟩
  · obtain rfl : v = .slice none 0 0 := by simpa using hcs
    cases hv
    rw [Nat.zero_mul]
    exact Nat.zero_le _
  · obtain rfl : v = .slice (some a') len cap := by simpa using hcs
    cases hv
    have h1 := hw ((((List.range l).map D).length + ((List.range (m - l)).map fun j => D (l + j)).length) * bytes) (by
      rw [hxe]
      simp only [DataW.weights, hT, hb]
      exact List.mem_cons_self ..)
    refine Nat.le_trans (Nat.mul_le_mul_right _ ?_) h1
    simp

end Go.Proofs.YtigegdelhpdlhaaGreatDoor

/- Rows of numbers of any kind: a block that opens with them, and rows of a call's own that grow. Kinds, types and sizes are parameters. -/
namespace Go.Proofs.YtigegdelhpdlhaaGreatDoor
open Go.RowKit

/-- a number of a kind, as one cell -/
abbrev enK (k : IntKind) : Nat → List Value := fun x => [Value.int k (x : Int)]
/-- the block g, of elements of type e, opens with the numbers X -/
def RowK (k : IntKind) (e : TypeId) (w : World) (g : Nat) (X : List Nat) : Prop := ∃ cur : Array Value, w.heap[g]? = some (.cells cur e (0, 0)) ∧ cur.toList.take X.length = flat (enK k) X
section
variable {k : IntKind} {e : TypeId} {w w' : World} {g : Nat} {X : List Nat}
theorem flatK_len (k : IntKind) (X : List Nat) : (flat (enK k) X).length = X.length := by rw [flat_length (m := 1) (fun _ => rfl), Nat.one_mul]
theorem RowK.cell (h : RowK k e w g X) {i : Nat} {x : Nat} (hx : X[i]? = some x) : w.cell? ⟨g, i, none⟩ = some (.int k (x : Int)) := by
  obtain ⟨cur, h1, h2⟩ := h
  obtain ⟨hi, he⟩ := List.getElem?_eq_some_iff.1 hx
  have h3 := flat_get (en := enK k) (m := 1) (fun _ => rfl) X i hi 0 (by omega)
  rw [← h2, Nat.one_mul, Nat.add_zero, List.getElem?_take_of_lt hi] at h3
  rw [cell_of h1, ← Array.getElem?_toList, h3, he]
  rfl
theorem RowK.frozen (h : RowK k e w g X) (i : Nat) : w.frozen? ⟨g, i, none⟩ = false := by
  obtain ⟨cur, h1, _⟩ := h
  exact frozen_of h1 i
theorem RowK.lt (h : RowK k e w g X) : g < w.heap.size := by
  obtain ⟨cur, h1, _⟩ := h
  exact lt_of h1
theorem RowK.set (h : RowK k e w g X) {i : Nat} (hi : i < X.length) (y : Nat) : RowK k e (w.setCell ⟨g, i, none⟩ (.int k (y : Int))) g (X.set i y) := by
  obtain ⟨cur, h1, h2⟩ := h
  refine ⟨_, heap_setCell_same h1 i _, ?_⟩
  have h3 := flat_set (en := enK k) (m := 1) (fun _ => rfl) X i hi 0 (.int k (y : Int)) y (by omega) rfl
  rw [Nat.one_mul, Nat.add_zero] at h3
  rw [List.length_set, ← h3, ← h2, Array.toList_setIfInBounds, List.take_set]
theorem RowK.same (h : RowK k e w g X) (hb : w'.heap[g]? = w.heap[g]?) : RowK k e w' g X := by
  obtain ⟨cur, h1, h2⟩ := h
  exact ⟨cur, hb.trans h1, h2⟩
theorem RowK.below (h : RowK k e w g X) (hb : Below w.heap.size w w') : RowK k e w' g X := h.same (hb.block g h.lt)
theorem RowK.new (w : World) (k : IntKind) (e : TypeId) (X : List Nat) (cur : Array Value) (h : cur.toList = flat (enK k) X) : RowK k e (w.alloc (.cells cur e)) w.heap.size X :=
  ⟨cur, heap_new w _, by rw [List.take_of_length_le (by rw [h, flatK_len]; omega)]; exact h⟩
end

/-- what is asked of the program of a kind, its element's type and the slice's -/
structure KindOk (k : IntKind) (e t : TypeId) (bytes : Nat) : Prop where
  sl : Tryz.prog.underlying t = some (.slice e)
  info : (Tryz.prog.info? e).map (fun i => (i.zero, i.size, i.bytes)) = some (some (.int k 0), 1, bytes)
  few : bytes ≤ 8

theorem ownK_shape {w : World} {base n : Nat} {e : TypeId} {v : Value} {xs : List Value} (h : w.ownsRow base e 1 v n xs) : ∃ A m, v = .slice A n m := by
  rcases h.2 with ⟨h1, h2⟩ | ⟨g, cap, cur, h1, _⟩
  · subst h2; exact ⟨none, 0, h1⟩
  · exact ⟨some ⟨g, 0, none⟩, cap, h1⟩
/-- numbers more at the end of a row of a call's own; where the new row lies -/
theorem wpList_nums {k : IntKind} {e t : TypeId} {bytes : Nat} (KO : KindOk k e t bytes) {w : World} {ops : Array Oper} {rest : List Oper} {o : Oper} {a : Act} {Q : Exit → Act → World → Prop} (hgd : o.guard = none) (s x : Operand)
    (ho : o.op = .call { callee := .builtin .append, args := #[s, x], argTypes := #[t, t] })
    (base : Nat) (L Y : List Nat) (A : Option Addr) (n c : Nat) (hs : a.eval s = .slice A n c) (hown : w.ownsRow base e 1 (.slice A n c) n (flat (enK k) L)) (hn : n ≤ 1000000000) (hbase : base ≤ w.heap.size)
    (p m : Nat) {cx : Nat} (hx : a.eval x = .slice (some ⟨p, 0, none⟩) m cx) (hm : Y.length = m) (hm2 : m ≤ 1000000) (hp : RowK k e w p Y)
    (h : ∀ A' c' w', w'.ownsRow base e 1 (.slice A' (n + m) c') (n + m) (flat (enK k) (L ++ Y)) → Below base w w' → w.grownBy w' (Value.slice A n c).ownBlock → ((Value.slice A' (n + m) c').ownBlock = (Value.slice A n c).ownBlock ∨ (Value.slice A' (n + m) c').ownBlock = some w.heap.size) → wpList Tryz.prog ops Q rest (a.put o.dst (.slice A' (n + m) c')) w') :
    wpList Tryz.prog ops Q (o :: rest) a w := by
  obtain ⟨i, hi, hz, h1, h2⟩ := info_parts KO.info
  have hf := KO.few
  refine wpList_append_own_at _ hgd s x t ho base e i (.int k 0) 1 bytes KO.sl hi hz h1 h2 rfl (by decide) _ n _ hs hown ⟨p, 0, none⟩ m cx (flat (enK k) Y) hx (by rw [flatK_len, hm, Nat.mul_one]) (fun j u hu => ?_) (fun u hu => ?_) (by unfold maxLen; omega) ?_ hbase (fun v' w' k1 k2 _ k4 => ?_)
  · obtain ⟨cur, h3, h4⟩ := hp
    have hj : j < Y.length := by
      have := (List.getElem?_eq_some_iff.1 hu).1
      rwa [flatK_len] at this
    rw [← h4, List.getElem?_take_of_lt hj] at hu
    rw [Addr.add_lit, Nat.zero_add, cell_of h3, ← Array.getElem?_toList, hu]
  · have : ∀ (Z : List Nat) (u : Value), u ∈ flat (enK k) Z → u.oneCell' = true := fun Z => by
      induction Z with
      | nil => intro u hu; cases hu
      | cons z Z ih =>
        intro u hu
        rw [flat_cons] at hu
        rcases List.mem_append.1 hu with hu | hu
        · rw [List.mem_singleton.1 hu]; rfl
        · exact ih u hu
    exact this Y u hu
  · calc (n + m) * bytes ≤ (n + m) * 8 := Nat.mul_le_mul_left _ hf
      _ ≤ 140737488355328 := by omega
  · obtain ⟨A', m', rfl⟩ := ownK_shape k1
    refine h A' m' w' ?_ ((Below.refl _ _).grown k2 hbase (fun k hk => ?_)) k2 k4
    · rw [flat_append]
      exact k1
    · exact (hown.lt k hk).1
theorem row_ofK {k : IntKind} {e : TypeId} {w : World} {base n c : Nat} {A : Option Addr} {X : List Nat} (h : w.ownsRow base e 1 (.slice A n c) n (flat (enK k) X)) (hn : 0 < n) (hx : X.length = n) : ∃ g, A = some ⟨g, 0, none⟩ ∧ base ≤ g ∧ RowK k e w g X ∧ n ≤ c ∧ c ≤ maxLen := by
  rcases h.2 with ⟨h1, h2⟩ | ⟨g, cap, cur, h1, h3, h4, h5, h6, _, h8⟩
  · omega
  · cases h1
    exact ⟨g, rfl, h3, ⟨cur, h4, by rw [hx]; rw [Nat.mul_one] at h8; exact h8⟩, h5, h6⟩
theorem own_nil {w : World} {k : IntKind} {e : TypeId} {base : Nat} : w.ownsRow base e 1 (.slice none 0 0) 0 (flat (enK k) []) := ⟨rfl, Or.inl ⟨rfl, rfl⟩⟩
end Go.Proofs.YtigegdelhpdlhaaGreatDoor

/- Layer 18: bytes of a row of one whole number (value.Encode). -/
namespace Go.Proofs.YtigegdelhpdlhaaGreatDoor
open Go.RowKit

theorem okJ8 : KindOk .u8 5 54 1 := ⟨Tryz.underlying54, by kernel_rfl, by decide⟩
/-- the lowest k bytes of n, the lowest first -/
def lo (n : Nat) : Nat → List Nat
  | 0 => []
  | k + 1 => lo n k ++ [n / 256 ^ k % 256]
theorem lo_length (n : Nat) : ∀ k, (lo n k).length = k
  | 0 => rfl
  | k + 1 => by show (lo n k ++ _).length = _; rw [List.length_append, lo_length n k]; rfl

set_option maxRecDepth 100000 in
set_option maxHeartbeats 1000000 in
theorem vappNum_any (base : Nat) (A : Option Addr) (l c : Nat) (L : List Nat) (n M : Nat) (w : World) (hown : w.ownsRow base 5 1 (.slice A l c) l (flat (enK .u8) L)) (hl : l ≤ 100000) (hM : M ≤ 8) (hbase : base ≤ w.heap.size) :
    Calls Tryz.prog 158 #[.slice A l c, .int .i64 (M : Int), .int .u64 (n : Int)] w fun e w' => ∃ A' c', e = .returned (.slice A' (l + M) c') ∧ Hid (w'.ownsRow base 5 1 (.slice A' (l + M) c') (l + M) (flat (enK .u8) (L ++ lo n M))) ∧ Below base w w' := by
  have HO : Hid (w.ownsRow base 5 1 (.slice A l c) l (flat (enK .u8) (L ++ lo n 0))) := by
    show World.ownsRow _ _ _ _ _ _ _
    rw [show lo n 0 = [] from rfl, List.append_nil]
    exact hown
  clear hown
  go_enter Tryz.func158, Tryz.ntmps158
  go_wp2_with fail
  go_loopw [0, 2, 8] (fun ov nv iv wx => ∃ (j x c : Nat) (A : Option Addr), j ≤ M ∧ iv = .int .i64 j ∧ nv = .int .u64 x ∧ Hid (n / 256 ^ j = x) ∧ ov = .slice A (l + j) c ∧ Hid (wx.ownsRow base 5 1 (.slice A (l + j) c) (l + j) (flat (enK .u8) (L ++ lo n j))) ∧ Hid (Below base w wx)) (fun _ _ iv _ => M - (intOf iv).toNat)
  case atStart => exact ⟨0, n, c, A, Nat.zero_le _, rfl, rfl, (by show _ = _; simp), rfl, HO, Below.refl _ _⟩
  case round =>
    clear HO
    obtain ⟨j, x, c1, A1, hj, rfl, rfl, HX, rfl, HO, HB⟩ := hrel
    have hbx : base ≤ wr.heap.size := Nat.le_trans hbase HB.out.size
    by_cases hlt : j < M
    · have hjI : (j : Int) < (M : Int) := by omega
      obtain ⟨y, hy⟩ : ∃ y, x % 256 = y := ⟨_, rfl⟩
      have hyI : (x : Int) % 256 = (y : Int) := by omega
      obtain ⟨z, hz⟩ : ∃ z, x / 256 = z := ⟨_, rfl⟩
      have hzI : (x : Int) / 256 = (z : Int) := by omega
      have HZ : Hid (n / 256 ^ (j + 1) = z) := by show _ = _; rw [Nat.pow_succ, ← Nat.div_div_eq_div_mul, HX.out, hz]
      have HA1 : Hid (L ++ lo n (j + 1) = (L ++ lo n j) ++ [y]) := by
        show _ = _
        rw [show lo n (j + 1) = lo n j ++ [n / 256 ^ j % 256] from rfl, HX.out, hy, List.append_assoc]
      obtain ⟨m, hm⟩ : ∃ m, l + j = m := ⟨_, rfl⟩
      rw [hm] at HO
      rw [hm]
      have HM : Hid (m + 1 = l + (j + 1)) := by show _ = _; omega
      have hm2 : m ≤ 200000 := by omega
      have hj1 : Hid (j + 1 ≤ M) := hlt
      obtain ⟨Z, hZ⟩ : ∃ Z, L ++ lo n j = Z := ⟨_, rfl⟩
      rw [hZ] at HO HA1
      clear hZ hm hy hz
      go_wp2_with (at_builtin; go_must (refine wpList_nums okJ8 rfl _ _ rfl base Z [y] A1 m c1 rfl ?q1 (by omega) ?q2 wr.heap.size 1 rfl rfl (by omega) ?q3 ?_))
      case q1 => exact HO.out.alloc _
      case q2 => simp; omega
      case q3 => exact RowK.new wr .u8 _ [y] _ rfl
      intro A3 c3 w3 ho3 hb3 _ _
      have HO3 : Hid (w3.ownsRow base 5 1 (.slice A3 (m + 1) c3) (m + 1) (flat (enK .u8) (L ++ lo n (j + 1)))) := by show World.ownsRow _ _ _ _ _ _ _; rw [HA1.out]; exact ho3
      have HB3 : Hid (Below base w w3) := (HB.out.alloc hbx _).trans hb3
      clear ho3 hb3 HO HB
      go_wp2_with fail
      go_roundw
      case rel => exact ⟨j + 1, z, c3, A3, hj1.out, by go_num, rfl, HZ, by rw [← HM.out], by rw [← HM.out]; exact HO3, HB3⟩
      case measure => simp [intOf]; omega
    · obtain rfl : j = M := by omega
      have hjI : ¬ (j : Int) < (j : Int) := by omega
      go_wp2_with fail
      go_ret
      exact ⟨A1, c1, rfl, HO, HB.out⟩

set_option maxRecDepth 100000 in
set_option maxHeartbeats 1000000 in
theorem vappVal_any (base : Nat) (A : Option Addr) (l c : Nat) (L : List Nat) (n : Nat) (w : World) (hown : w.ownsRow base 5 1 (.slice A l c) l (flat (enK .u8) L)) (hl : l ≤ 10000) (hn : n < 9223372036854775808) (hbase : base ≤ w.heap.size) :
    Calls Tryz.prog 131 #[.slice A l c, val 2 (n : Int) ByteArray.empty] w fun e w' => ∃ A' c', e = .returned (.slice A' (l + 1 + 8) c') ∧ Hid (w'.ownsRow base 5 1 (.slice A' (l + 1 + 8) c') (l + 1 + 8) (flat (enK .u8) (L ++ [2] ++ lo n 8))) ∧ Below base w w' := by
  have HO : Hid (w.ownsRow base 5 1 (.slice A l c) l (flat (enK .u8) L)) := hown
  have HAp : Hid (∀ (A : Option Addr) (c : Nat) (u : World), u.ownsRow base 5 1 (.slice A (l + 1) c) (l + 1) (flat (enK .u8) (L ++ [2])) → base ≤ u.heap.size → Calls Tryz.prog 158 #[.slice A (l + 1) c, .int .i64 8, .int .u64 (n : Int)] u fun e w' => ∃ A' c', e = .returned (.slice A' (l + 1 + 8) c') ∧ Hid (w'.ownsRow base 5 1 (.slice A' (l + 1 + 8) c') (l + 1 + 8) (flat (enK .u8) (L ++ [2] ++ lo n 8))) ∧ Below base u w') := fun A c u h1 h2 => vappNum_any base A (l + 1) c (L ++ [2]) n 8 u h1 (by omega) (by omega) h2
  have wn : IntKind.u64.wrap (n : Int) = (n : Int) := by
    simp [IntKind.wrap, IntKind.bits, IntKind.signed]
    omega
  have wn2 : (n : Int) % 18446744073709551616 = (n : Int) := by omega
  have hsl := @store_law
  unfold val
  clear hown
  go_enter Tryz.func131, Tryz.ntmps131
  go_wp2_with (first | (at_builtin; go_must (refine wpList_nums okJ8 rfl _ _ rfl base L [2] A l c rfl ?q1 (by omega) ?q2 (w.heap.size + 1) 1 rfl rfl (by omega) ?q3 ?_)))
  case q1 => exact (HO.out.alloc _).alloc _
  case q2 => simp; omega
  case q3 =>
    have h := RowK.new (w.alloc (.cells #[.int .i64 2, .int .i64 (n : Int), .complex .f64 0 0, .string ByteArray.empty] 60)) .u8 5 [2] _ rfl
    rwa [World.size_alloc] at h
  intro A2 c2 w3 ho3 hb3 hg3 hat3
  have hbox : w3.heap[w.heap.size]? = some (.cells #[.int .i64 2, .int .i64 (n : Int), .complex .f64 0 0, .string ByteArray.empty] 60 (0, 0)) := by
    have h1 := heap_new w (.cells #[.int .i64 2, .int .i64 (n : Int), .complex .f64 0 0, .string ByteArray.empty] 60)
    have h2 := (Below.heap_alloc (w.alloc (.cells #[.int .i64 2, .int .i64 (n : Int), .complex .f64 0 0, .string ByteArray.empty] 60)) (.cells #[.int .u8 2] 5) w.heap.size (by simp)).trans h1
    refine (hg3.block w.heap.size (by simp; omega) (fun e => ?_)).trans h2
    have := (World.ownsRow.lt HO.out w.heap.size e.symm).2
    omega
  have d0 : w3.cell? ⟨w.heap.size, 0, none⟩ = some (.int .i64 2) := by rw [cell_of hbox]; rfl
  have d1 : w3.cell? ⟨w.heap.size, 1, none⟩ = some (.int .i64 (n : Int)) := by rw [cell_of hbox]; rfl
  have HO3 : Hid (w3.ownsRow base 5 1 (.slice A2 (l + 1) c2) (l + 1) (flat (enK .u8) (L ++ [2]))) := ho3
  have HB3 : Hid (Below base w w3) := (((Below.refl base w).alloc hbase _).alloc (by simp; omega) _).trans hb3
  have hb3s : base ≤ w3.heap.size := Nat.le_trans hbase HB3.out.size
  clear ho3 hb3 hg3 hat3 hbox HO
  go_wp2_with (go_at_call 158; go_must (refine (HAp.out _ _ _ HO3.out hb3s).mono ?_; rintro e w4 ⟨A4, c4, rfl, HO4, hb4⟩))
  go_ret
  exact ⟨A4, c4, rfl, HO4, HB3.out.trans hb4⟩
end Go.Proofs.YtigegdelhpdlhaaGreatDoor
