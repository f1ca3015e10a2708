/- Slices that are copied by append onto an empty one; SameWords. -/
import Derived.Test.YtibgpjokdpagcaaWWorks
import Derived.Laws.AppendOwnNone
import Derived.Deep.DeepMust
namespace Go.Proofs.Ytibgpjokdpagcaa
open Go.RowKit

/-- a nil slice has no room -/
def NilOk (v : Value) : Prop := ∀ k c, v = .slice none k c → c = 0

theorem nil_of {P : Program} {H : Type} {ec : TypeId × Value → H} {W : World} {fuel : Nat} {T E : TypeId} {v : Value} {x : DataW H × List MemPlace} (hT : P.underlying T = some (.slice E)) (hf : DataW.trod ec P W 0 (fun _ => true) true fuel T [v] = some x) : NilOk v := by
  intro k c e
  rcases Go.Deep.open_slice hT hf with ⟨hcs, _⟩ | ⟨a, len, cap, m, n, D, Pl, hcs, _⟩
  · obtain rfl : v = .slice none 0 0 := by simpa using hcs
    cases e; rfl
  · obtain rfl : v = .slice (some a) len cap := by simpa using hcs
    cases e

theorem info_parts {e : TypeId} {z : Value} {size bytes : Nat} (h : (Try.prog.info? e).map (fun i => (i.zero, i.size, i.bytes)) = some (some z, size, bytes)) : ∃ i, Try.prog.info? e = some i ∧ i.zero = some z ∧ i.size = size ∧ i.bytes = bytes := by
  cases hq : Try.prog.info? e with
  | none => rw [hq] at h; cases h
  | some i =>
    rw [hq] at h
    simp only [Option.map_some, Option.some.injEq, Prod.mk.injEq] at h
    exact ⟨i, rfl, h.1, h.2.1, h.2.2⟩

/-- append([]E{}, l...) -/
theorem append_copy {w : World} {ops : Array Oper} {rest : List Oper} {o : Oper} {a : Act} {Q : Exit → Act → World → Prop} (hgd : o.guard = none) (s x : Operand) (t : TypeId)
    (ho : o.op = .call { callee := .builtin .append, args := #[s, x], argTypes := #[t, t] })
    (base : Nat) (e : TypeId) (i : TypeInfo) (z : Value) (size bytes : Nat) (ht : Try.prog.underlying t = some (.slice e)) (hi : Try.prog.info? e = some i) (hz : i.zero = some z)
    (hsize : i.size = size) (hby : i.bytes = bytes) (hzs : z.cells.size = size) (hsz : 0 < size)
    (g : Nat) (hs : a.eval s = .slice (some ⟨g, 0, none⟩) 0 0) (hown : w.ownsRow base e size (.slice (some ⟨g, 0, none⟩) 0 0) 0 [])
    {α : Type} (en : α → List Value) (hm : ∀ y, (en y).length = size) (hone : ∀ y, ∀ u ∈ en y, u.oneCell' = true) (vx : Value) (L : List α) (hx : a.eval x = vx) (hsl : SliceAt w vx size en L) (hnil : NilOk vx)
    (h63 : L.length * bytes ≤ 140737488355328) (hbase : base ≤ w.heap.size)
    (h : ∀ v' w', w'.ownsRow base e size v' L.length (flat en L) → w.grownBy w' (some g) → wpList Try.prog ops Q rest (a.put o.dst v') w') : wpList Try.prog ops Q (o :: rest) a w := by
  obtain ⟨ax, cx, rfl, hl, hc, hxx⟩ := hsl
  cases ax with
  | none =>
    have hc0 := hnil _ _ rfl
    subst hc0
    have hL : L = [] := List.length_eq_zero_iff.1 (by omega)
    subst hL
    exact wpList_append_own_none hgd s x t ho base e i size ht hi _ 0 [] hs hown hx (h _ _ hown ⟨rfl, rfl, rfl, Nat.le_refl _, fun _ _ _ => rfl⟩)
  | some ad =>
    refine wpList_append_own _ hgd s x t ho base e i z size bytes ht hi hz hsize hby hzs hsz _ 0 [] hs hown ad L.length cx (flat en L) hx (by rw [flat_length hm, Nat.mul_comm]) (fun j u hu => ?_) (fun u hu => ?_) (by omega) (by rw [Nat.zero_add]; exact h63) hbase (fun v' w' h1 h2 _ => h v' w' (by simpa using h1) h2)
    · have hj : j < size * L.length := by rw [← flat_length hm L]; exact (List.getElem?_eq_some_iff.1 hu).1
      have hne : L ≠ [] := by intro e; subst e; simp at hj
      obtain ⟨b, off, e, _, hcs⟩ := hxx hne
      cases e
      have hq : j / size < L.length := by rw [Nat.div_lt_iff_lt_mul hsz, Nat.mul_comm]; exact hj
      have hr : j % size < size := Nat.mod_lt _ hsz
      have ej : size * (j / size) + j % size = j := Nat.div_add_mod j size
      have h1 := flat_get hm L (j / size) hq (j % size) hr
      rw [ej, hu] at h1
      have h2 := hcs (j / size) hq (j % size) u h1.symm
      rw [Addr.add_lit]
      rw [Nat.add_assoc, Nat.mul_comm (j / size) size, ej] at h2
      exact h2
    · obtain ⟨y, _, hy⟩ := List.mem_flatMap.1 hu
      exact hone y u hy

theorem own_slice {α : Type} {en : α → List Value} {n : Nat} (hm : ∀ g, (en g).length = n) {w : World} {base : Nat} {e : TypeId} {v : Value} {L : List α} (h : w.ownsRow base e n v L.length (flat en L)) : SliceAt w v n en L := by
  obtain ⟨h1, h2⟩ := h
  rcases h2 with ⟨rfl, h0⟩ | ⟨g, cap, cur, rfl, _, hg, hc, hm2, _, hx⟩
  · have : L = [] := List.length_eq_zero_iff.1 h0
    subst this
    exact ⟨none, 0, rfl, Nat.le_refl _, Nat.zero_le _, fun h => absurd rfl h⟩
  · exact sliceAt_flat hm hg hx hc hm2
theorem map_flat {α : Type} (f : α → Value) (L : List α) : L.map f = flat (fun x => [f x]) L := by
  induction L with
  | nil => rfl
  | cons x L ih => rw [flat_cons, ← ih]; rfl
theorem infoI : (Try.prog.info? 3).map (fun i => (i.zero, i.size, i.bytes)) = some (some (.int .i64 0), 1, 8) := by kernel_rfl

theorem repG_words {w : World} {h g2 g3 n : Nat} {c : List Int} {R : List (List Int)} {D : List Bool} (hR : RepG w h g2 g3 c R D) (hn : c.length = n) (hm : n ≤ 4096) : WordsAt w (.slice (some ⟨h, 0, none⟩) n n) c := by
  obtain ⟨cur, hcu, hcl⟩ := hR.c
  subst hn
  exact sliceAt_flat (en := fun x : Int => [Value.int .u64 x]) (n := 1) (cap := c.length) (L := c) (fun _ => rfl) hcu (by rw [hcl, ← ucells_flat, Nat.mul_one]; conv => lhs; rw [← ucells_length, List.take_length]) (Nat.le_refl _) (by unfold maxLen; omega)

theorem row_empty (w : World) (e : TypeId) (size : Nat) : (w.alloc (.cells #[] e (0, 0))).ownsRow w.heap.size e size (.slice (some ⟨w.heap.size, 0, none⟩) 0 0) 0 [] :=
  ⟨by simp, Or.inr ⟨w.heap.size, 0, #[], rfl, Nat.le_refl _, heap_new w _, Nat.le_refl _, Nat.zero_le _, by simp, by simp⟩⟩

set_option maxRecDepth 100000 in
set_option maxHeartbeats 400000 in
theorem sameWords_true (v v' : Value) (L : List Int) (w : World) (h : WordsAt w v L) (h' : WordsAt w v' L) :
    Calls Try.prog 16 #[v, v'] w fun e w' => e = .returned (.bool true) ∧ Below w.heap.size w w' := by
  obtain ⟨a, c, rfl, hl, hc, hx⟩ := h
  obtain ⟨a', c', rfl, hl', hc', hx'⟩ := h'
  have HX : Hid (L ≠ [] → ∃ b off, a = some ⟨b, off, none⟩ ∧ b < w.heap.size ∧ ∀ i, (h : i < L.length) → ∀ (j : Nat) (u : Value), ([Value.int .u64 L[i]])[j]? = some u → w.cell? ⟨b, off + i * 1 + j, none⟩ = some u) := hx
  have HX' : Hid (L ≠ [] → ∃ b off, a' = some ⟨b, off, none⟩ ∧ b < w.heap.size ∧ ∀ i, (h : i < L.length) → ∀ (j : Nat) (u : Value), ([Value.int .u64 L[i]])[j]? = some u → w.cell? ⟨b, off + i * 1 + j, none⟩ = some u) := hx'
  unfold maxLen at hc hc'
  clear hx hx'
  go_enter Try.func16, Try.ntmps16
  go_wp2_with fail
  go_loopw [5] (fun i wr => ∃ j : Nat, j ≤ L.length ∧ i = .int .i64 j ∧ Below w.heap.size w wr) (fun i _ => L.length - (intOf i).toNat)
  case atStart => exact ⟨0, Nat.zero_le _, rfl, Below.refl _ _⟩
  case round =>
    obtain ⟨j, hj, rfl, hb⟩ := hrel
    have HB : Hid (Below w.heap.size w wr) := hb
    clear hb
    by_cases hlt : j < L.length
    · have hlI : (j : Int) < (L.length : Int) := by omega
      have hne : L ≠ [] := by intro e; rw [e] at hlt; simp at hlt
      obtain ⟨b, off, rfl, hbl, hcs⟩ := HX.out hne
      obtain ⟨b', off', rfl, hbl', hcs'⟩ := HX'.out hne
      obtain ⟨x, hxe⟩ : ∃ x, L[j] = x := ⟨_, rfl⟩
      have q := hcs j hlt 0 _ rfl
      have q' := hcs' j hlt 0 _ rfl
      rw [hxe, Nat.mul_one, Nat.add_zero] at q q'
      have p : wr.cell? ⟨b, off + j, none⟩ = some (.int .u64 x) := (HB.out.cell hbl).trans q
      have p' : wr.cell? ⟨b', off' + j, none⟩ = some (.int .u64 x) := (HB.out.cell hbl').trans q'
      clear hcs hcs' q q' hxe hne
      go_wp2_with fail
      go_quiet (fail)
      have HB2 : Hid (Below w.heap.size w (wr.drewN nq)) := HB.out.trans ((below_drewN wr nq).mono HB.out.size)
      go_wp2_with fail
      go_roundw
      case rel => exact ⟨j + 1, by omega, by go_num, HB2.out⟩
      case measure => simp [intOf]; omega
    · have hgI : ¬ (j : Int) < (L.length : Int) := by omega
      go_wp2_with fail
      go_ret
      exact ⟨rfl, HB.out⟩

end Go.Proofs.Ytibgpjokdpagcaa
