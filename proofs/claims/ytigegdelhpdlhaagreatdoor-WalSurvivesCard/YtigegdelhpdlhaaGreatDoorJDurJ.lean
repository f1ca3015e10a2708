import Derived.Test.YtigegdelhpdlhaaGreatDoorFFrameJ
import Derived.Laws.AppendOwnNone
import Derived.Shelf.SlSortCmp.InsertionK
import Derived.Ground.SlsfProg
import Derived.Shelf.SlGeneric
import Derived.Test.YtigegdelhpdlhaaGreatDoorProg
/- Layer 18: the durable epoch of a disk's marks. -/
namespace Go.Proofs.YtigegdelhpdlhaaGreatDoor
open Go.RowKit QP

def lastE (l : List Nat) : Nat := l.getLast?.getD 0
theorem lastE_next {l : List Nat} {j : Nat} (h : j < l.length) : lastE (l.take (j + 1)) = l[j] := by
  unfold lastE
  rw [List.take_succ_eq_append_getElem h, List.getLast?_append]
  rfl
/-- marks that rise -/
def RiseE (l : List Nat) : Prop := ∀ j, (h : j < l.length) → lastE (l.take j) < l[j]
abbrev markN (e : Nat) : ByteArray := ofN (lo e 8)
theorem markN_size (e : Nat) : (markN e).size = 8 := by rw [ofN_size, lo_length]
theorem row_shapeJ {w : World} {base n : Nat} {v : Value} {t : TypeId} {size : Nat} {xs : List Value} (h : w.ownsRow base t size v n xs) : ∃ A cap, v = .slice A n cap := by
  rcases h.2 with ⟨h1, hl⟩ | ⟨g, cap', cur, h1, hg, hh, r1, r2, r3, r4⟩
  · subst h1
    exact ⟨none, 0, by rw [hl]⟩
  · subst h1
    exact ⟨_, _, rfl⟩
theorem row_someJ {w : World} {base n : Nat} {A : Option Addr} {cap : Nat} {t : TypeId} {size : Nat} {xs : List Value} (h : w.ownsRow base t size (.slice A n cap) n xs) (hn : 0 < n) : ∃ g, A = some ⟨g, 0, none⟩ ∧ n ≤ cap ∧ cap ≤ 9223372036854775807 := by
  rcases h.2 with ⟨h1, hl⟩ | ⟨g, cap', cur, h1, hg, hh, r1, r2, r3, r4⟩
  · omega
  · cases h1
    unfold maxLen at r2
    exact ⟨g, rfl, r1, by omega⟩

set_option maxRecDepth 100000 in
set_option maxHeartbeats 1000000 in
theorem jdurable_any (d : Nat) (s : Dk.Dsk) (w : World) (F : Nat → Prop) (h : DiskI d s w F) (Es : List Nat) (T : List UInt8) (ht : TornF T) (hD : Dk.readV s epochB.data.toList = flatF (Es.map markN) ++ T) (hsz : (flatF (Es.map markN) ++ T).length ≤ 1000000) (hr : RiseE Es) (hm : ∀ e ∈ Es, e ≤ 2147483648) :
    Calls Tryz.prog 74 #[.pointer (some ⟨d, 0, none⟩)] w fun e w' => e = .returned (.int .i64 ((lastE Es : Nat) : Int)) ∧ Below w.heap.size w w' := by
  have HFr : Hid (Calls Tryz.prog 99 #[.pointer (some ⟨d, 0, none⟩), .string ⟨#[101, 112, 111, 99, 104]⟩] w fun e w' => ∃ A c, e = .returned (.slice A Es.length c) ∧ Hid (w'.ownsRow w.heap.size 9 1 (.slice A Es.length c) Es.length ((Es.map markN).map Value.string)) ∧ Hid (Below w.heap.size w w')) := by
    refine (jframes_any d s epochB w F h (by decide) (Es.map markN) T ht (fun b hb => ?_) hD hsz).mono fun e w' ⟨v, e1, e2, e3⟩ => ?_
    · obtain ⟨e, _, rfl⟩ := List.mem_map.1 hb
      rw [markN_size]; decide
    · rw [List.length_map] at e2
      obtain ⟨A, c, rfl⟩ := row_shapeJ e2.out
      exact ⟨A, c, e1, e2, e3⟩
  have HN : Hid (∀ (e : Nat) u, e ≤ 2147483648 → Calls Tryz.prog 100 #[.string (markN e)] u fun r w' => r = .returned (.int .u64 (e : Int)) ∧ Below u.heap.size u w') := fun e u he => numOf_any e u (by omega)
  have HRf : Hid (∀ u, Calls Tryz.prog 55 #[.bool false, .int .i64 190] u fun r w' => r = .returned (.tuple #[]) ∧ u = w') := fun u => (refuse_no 190 u).mono fun _ _ h => ⟨h.1, h.2.symm⟩
  have HRi : Hid (RiseE Es ∧ ∀ e ∈ Es, e ≤ 2147483648) := ⟨hr, hm⟩
  obtain ⟨n, hn⟩ : ∃ n, Es.length = n := ⟨_, rfl⟩
  have HLn : Hid (Es.length = n) := hn
  rw [hn] at HFr
  clear h ht hD hsz hr hm hn
  go_enter Tryz.func74, Tryz.ntmps74
  go_wp2_with (go_at_call 99; (with_reducible refine HFr.out.mono ?_); rintro e w1 ⟨A, c, rfl, HO, HB⟩)
  clear HFr
  go_loopw [3, 10] (fun v i wr => ∃ j l : Nat, j ≤ n ∧ i = .int .i64 j ∧ v = .int .u64 l ∧ Hid (l = lastE (Es.take j)) ∧ l ≤ 2147483648 ∧ Hid (Below w1.heap.size w1 wr)) (fun _ i _ => n - (intOf i).toNat)
  case atStart => exact ⟨0, 0, Nat.zero_le _, rfl, rfl, (rfl : _ = _), by decide, Below.refl _ _⟩
  case round =>
    obtain ⟨j, l, hj, rfl, rfl, HL, hl31, HBr⟩ := hrel
    by_cases hlt : j < n
    · obtain ⟨g, rfl, hc1, hc2⟩ := row_someJ HO.out (by omega)
      have hje : j < Es.length := by rw [HLn.out]; exact hlt
      obtain ⟨E, hE⟩ : ∃ E, Es[j] = E := ⟨_, rfl⟩
      have hx : ((Es.map markN).map Value.string)[j]? = some (.string (markN E)) := by
        rw [List.getElem?_map, List.getElem?_map, List.getElem?_eq_getElem hje, hE]
        rfl
      have q0 : wr.cell? ⟨g, j, none⟩ = some (.string (markN E)) := by
        have h1 := World.ownsRow.cells (row_kept HO.out HBr.out) (g := g) rfl j _ hx
        rw [Addr.add_lit, Nat.zero_add] at h1
        exact h1
      have hEm : E ≤ 2147483648 := by rw [← hE]; exact HRi.out.2 _ (List.getElem_mem hje)
      have hEr : l < E := by
        have := HRi.out.1 j hje
        rw [← HL.out, hE] at this
        exact this
      have HL2 : Hid (E = lastE (Es.take (j + 1))) := by
        show _ = _
        rw [lastE_next hje, hE]
      have HN1 : Hid (Calls Tryz.prog 100 #[.string (markN E)] wr fun r w' => r = .returned (.int .u64 (E : Int)) ∧ Below wr.heap.size wr w') := HN.out E wr hEm
      have hms : ((markN E).size : Int) = 8 := by rw [markN_size]; rfl
      obtain ⟨M, hM⟩ : ∃ M, markN E = M := ⟨_, rfl⟩
      rw [hM] at q0 HN1 hms
      have hlI : (j : Int) < (n : Int) := by omega
      have d1 : ¬ (E : Int) ≤ (l : Int) := by omega
      have d2 : decide ((2147483648 : Int) < (E : Int)) = false := decide_eq_false (by omega)
      have d3 : decide (2147483648 < E) = false := decide_eq_false (by omega)
      have d4 : decide (E ≤ l) = false := decide_eq_false (by omega)
      clear hx hM hE hEr
      go_wp2_with (first
        | (go_at_call 55; (with_reducible refine (HRf.out _).mono ?_); rintro e w4 ⟨rfl, rfl⟩)
        | (go_at_call 100; (with_reducible refine HN1.out.mono ?_); rintro e w3 ⟨rfl, hb3⟩; have HB3 : Hid (Below w1.heap.size w1 w3) := HBr.out.trans (hb3.mono HBr.out.size); clear hb3))
      exact ⟨⟨j + 1, E, by omega, by go_num, rfl, HL2, hEm, HB3⟩, by simp [intOf]; omega⟩
    · obtain rfl : j = n := by omega
      have hlI : ¬ (j : Int) < (j : Int) := by omega
      have wl : IntKind.i64.wrap (l : Int) = (l : Int) := jwrapI (by omega) (by omega)
      have HR : Hid (l = lastE Es) := by
        show _ = _
        rw [HL.out, List.take_of_length_le (by rw [HLn.out]; exact Nat.le_refl _)]
      clear HL
      go_wp2
      go_ret
      exact ⟨by rw [← HR.out]; rfl, HB.out.trans (HBr.out.mono HB.out.size)⟩
end Go.Proofs.YtigegdelhpdlhaaGreatDoor

/- Layer 18: the entries of a log up to an epoch. -/
namespace Go.Proofs.YtigegdelhpdlhaaGreatDoor
open Go.RowKit QP

/-- an entry in memory: its word, its number, where its write and its row lie -/
abbrev Er := Nat × Nat × Nat × Nat
abbrev Er.mk (T n g x : Nat) : Er := (T, n, g, x)
abbrev Er.T (e : Er) : Nat := e.1
abbrev Er.n (e : Er) : Nat := e.2.1
abbrev Er.g (e : Er) : Nat := e.2.2.1
abbrev Er.x (e : Er) : Nat := e.2.2.2
abbrev Er.tn (e : Er) : Nat × Nat := (e.T, e.n)
def enE (e : Er) : List Value := [.int .u64 (e.T : Int), .slice (some ⟨e.g, 0, none⟩) 1 1]
theorem enE_len (e : Er) : (enE e).length = 2 := rfl
/-- a slice of entries of its own -/
structure EntsO (w : World) (base : Nat) (t k : ByteArray) (v : Value) (L : List Er) : Prop where
  row : w.ownsRow base 42 2 v L.length (flat enE L)
  ent : ∀ e ∈ L, w.heap[e.g]? = some (boxJ t k e.x) ∧ OneAt w e.x 2 (e.n : Int) ByteArray.empty ∧ base ≤ e.g ∧ base ≤ e.x ∧ v.ownBlock ≠ some e.g ∧ v.ownBlock ≠ some e.x
section
variable {w w' : World} {base : Nat} {t k : ByteArray} {v : Value} {L : List Er}
theorem EntsO.below (h : EntsO w base t k v L) (hb : Below w.heap.size w w') : EntsO w' base t k v L :=
  ⟨row_kept h.row hb, fun e he => by
    obtain ⟨h1, h2, h3⟩ := h.ent e he
    exact ⟨(hb.block _ (lt_of h1)).trans h1, h2.below hb, h3⟩⟩
theorem EntsO.low (h : EntsO w base t k v L) {base' : Nat} (hb : base' ≤ base) : EntsO w base' t k v L := by
  refine ⟨⟨h.row.1, ?_⟩, fun e he => ?_⟩
  · rcases h.row.2 with h2 | ⟨g, cap, cur, rfl, hg, r⟩
    · exact Or.inl h2
    · exact Or.inr ⟨g, cap, cur, rfl, Nat.le_trans hb hg, r⟩
  · obtain ⟨h1, h2, h3, h4, h5⟩ := h.ent e he
    exact ⟨h1, h2, by omega, by omega, h5⟩
theorem ents_nil : EntsO w base t k (.slice none 0 0) [] := ⟨World.ownsRow_nil _ _ _ _, fun _ h => by cases h⟩
end
theorem infoEn : ∃ i, Tryz.prog.info? 42 = some i ∧ i.zero = some (.agg #[.int .u64 0, .slice none 0 0]) ∧ i.size = 2 ∧ i.bytes = 32 := info_parts (by kernel_rfl)

/-- one entry more -/
theorem wpList_ent {w : World} {ops : Array Oper} {rest : List Oper} {o : Oper} {a : Act} {Q : Exit → Act → World → Prop} (hgd : o.guard = none) (sl x : Operand)
    (ho : o.op = .call { callee := .builtin .append, args := #[sl, x], argTypes := #[38, 38] })
    (base : Nat) (t k : ByteArray) (v : Value) (L : List Er) (hs : a.eval sl = v) (hown : EntsO w base t k v L) (e : Er) (p c : Nat) (hx : a.eval x = .slice (some ⟨p, 0, none⟩) 1 c) (hp : w.heap[p]? = some (.cells #[.int .u64 (e.T : Int), .slice (some ⟨e.g, 0, none⟩) 1 1] 42 (0, 0)))
    (he : w.heap[e.g]? = some (boxJ t k e.x) ∧ OneAt w e.x 2 (e.n : Int) ByteArray.empty ∧ base ≤ e.g ∧ base ≤ e.x ∧ v.ownBlock ≠ some e.g ∧ v.ownBlock ≠ some e.x) (hL : L.length ≤ 100000) (hbase : base ≤ w.heap.size)
    (h : ∀ v' w', Hid (EntsO w' base t k v' (L ++ [e])) → Hid (Turn (fun i => v.ownBlock = some i) w w') → wpList Tryz.prog ops Q rest (a.put o.dst v') w') : wpList Tryz.prog ops Q (o :: rest) a w := by
  obtain ⟨i0, hi, hz0, hz1, hz2⟩ := infoEn
  refine wpList_append_own_at _ hgd sl x 38 ho base 42 i0 (.agg #[.int .u64 0, .slice none 0 0]) 2 32 Tryz.underlying38 hi hz0 hz1 hz2 rfl (by decide) v L.length (flat enE L) hs hown.row ⟨p, 0, none⟩ 1 c (enE e) hx rfl (fun j u hu => ?_) (fun u hu => ?_) (by unfold maxLen; omega) (by omega) hbase (fun v' w' k1 k2 _ k4 => ?_)
  · rw [Addr.add_lit, Nat.zero_add, cell_of hp]
    match j, hu with
    | 0, hu => simpa [enE] using hu
    | 1, hu => simpa [enE] using hu
  · unfold enE at hu
    simp only [List.mem_cons, List.not_mem_nil, or_false] at hu
    rcases hu with rfl | rfl <;> rfl
  · have hT : Turn (fun i => v.ownBlock = some i) w w' := Turn.ofGrown k2 fun k hk => hk
    refine h v' w' ⟨?_, fun f hf => ?_⟩ hT
    · rw [List.length_append, flat_append]
      have e1 : flat enE [e] = enE e := by rw [flat_cons]; exact List.append_nil _
      rw [e1]
      exact k1
    · have key : ∀ f : Er, (w.heap[f.g]? = some (boxJ t k f.x) ∧ OneAt w f.x 2 (f.n : Int) ByteArray.empty ∧ base ≤ f.g ∧ base ≤ f.x ∧ v.ownBlock ≠ some f.g ∧ v.ownBlock ≠ some f.x) → w'.heap[f.g]? = some (boxJ t k f.x) ∧ OneAt w' f.x 2 (f.n : Int) ByteArray.empty ∧ base ≤ f.g ∧ base ≤ f.x ∧ v'.ownBlock ≠ some f.g ∧ v'.ownBlock ≠ some f.x := by
        intro f ⟨h1, h2, h3, h4, h5, h6⟩
        refine ⟨(hT.block _ (lt_of h1) h5).trans h1, oneAt_turn h2 hT h6, h3, h4, ?_, ?_⟩
        · intro e1
          rcases k4 with h | h
          · exact h5 (h ▸ e1)
          · rw [h] at e1
            have := lt_of h1
            simp only [Option.some.injEq] at e1
            omega
        · intro e1
          rcases k4 with h | h
          · exact h6 (h ▸ e1)
          · rw [h] at e1
            have := h2.1
            simp only [Option.some.injEq] at e1
            omega
      rcases List.mem_append.1 hf with hf | hf
      · exact key f (hown.ent f hf)
      · rw [List.mem_singleton.1 hf]
        exact key e he

/-- those of an epoch that is not above -/
def upTo (D : Nat) (L : List (Nat × Nat)) : List (Nat × Nat) := L.filter fun p => decide (p.1 / 8388608 ≤ D)
theorem upTo_next {D : Nat} {L : List (Nat × Nat)} {j : Nat} (h : j < L.length) : upTo D (L.take (j + 1)) = if L[j].1 / 8388608 ≤ D then upTo D (L.take j) ++ [L[j]] else upTo D (L.take j) := by
  unfold upTo
  rw [List.take_succ_eq_append_getElem h, List.filter_append]
  by_cases hd : L[j].1 / 8388608 ≤ D
  · rw [if_pos hd]; simp [hd]
  · rw [if_neg hd]; simp [hd]
abbrev bodyN (t k : ByteArray) (p : Nat × Nat) : ByteArray := ofN (entN p.1 t k p.2)
theorem bodyN_size (t k : ByteArray) (p : Nat × Nat) : (bodyN t k p).size = t.size + k.size + 51 := by
  rw [ofN_size]
  unfold entN
  simp only [List.length_append, lo_length, writeN_length]
  omega

set_option maxRecDepth 100000 in
set_option maxHeartbeats 2000000 in
theorem jupTo_any (d : Nat) (s : Dk.Dsk) (f : ByteArray) (w : World) (F : Nat → Prop) (h : DiskI d s w F) (hf : f.size ≤ maxLen) (t k : ByteArray) (ht : t.size ≤ 100) (hk : k.size ≤ 100) (L : List (Nat × Nat)) (T : List UInt8) (hT : TornF T) (hD : Dk.readV s f.data.toList = flatF (L.map (bodyN t k)) ++ T) (hsz : (flatF (L.map (bodyN t k)) ++ T).length ≤ 1000000) (hL : L.length ≤ 1000) (hok : ∀ p ∈ L, TidOk p.1 ∧ p.2 < 9223372036854775808) (D : Nat) :
    Calls Tryz.prog 75 #[.int .i64 (D : Int), .pointer (some ⟨d, 0, none⟩), .string f] w fun e w' => ∃ v, e = .returned v ∧ ∃ R, Hid (EntsO w' w.heap.size t k v R) ∧ Hid (R.map Er.tn = upTo D L) ∧ Hid (Below w.heap.size w w') := by
  have HFr : Hid (Calls Tryz.prog 99 #[.pointer (some ⟨d, 0, none⟩), .string f] w fun e w' => ∃ A c, e = .returned (.slice A L.length c) ∧ Hid (w'.ownsRow w.heap.size 9 1 (.slice A L.length c) L.length ((L.map (bodyN t k)).map Value.string)) ∧ Hid (Below w.heap.size w w')) := by
    refine (jframes_any d s f w F h hf (L.map (bodyN t k)) T hT (fun b hb => ?_) hD hsz).mono fun e w' ⟨v, e1, e2, e3⟩ => ?_
    · obtain ⟨e, _, rfl⟩ := List.mem_map.1 hb
      rw [bodyN_size]; omega
    · rw [List.length_map] at e2
      obtain ⟨A, c, rfl⟩ := row_shapeJ e2.out
      exact ⟨A, c, e1, e2, e3⟩
  have HE : Hid (∀ (p : Nat × Nat) u, p ∈ L → Calls Tryz.prog 101 #[.string (bodyN t k p)] u fun r w' => ∃ g x, r = .returned (.tuple #[.agg #[.int .u64 (p.1 : Int), .slice (some ⟨g, 0, none⟩) 1 1], .int .i64 0]) ∧ Hid (EntN u.heap.size p.2 t k g x u w')) := fun p u hp => jEntry_any u (hok p hp).1 (hok p hp).2 ht hk
  have HEp : Hid (∀ (p : Nat × Nat) v u, p ∈ L → Calls Tryz.prog 64 #[.agg #[.int .u64 (p.1 : Int), v]] u fun r w' => r = .returned (.int .i64 ((p.1 / 8388608 : Nat) : Int)) ∧ Below u.heap.size u w') := fun p v u hp => jepochOf_any p.1 v u (hok p hp).1
  have HRf : Hid (∀ u, Calls Tryz.prog 55 #[.bool false, .int .i64 190] u fun r w' => r = .returned (.tuple #[]) ∧ u = w') := fun u => (refuse_no 190 u).mono fun _ _ h => ⟨h.1, h.2.symm⟩
  obtain ⟨n, hn⟩ : ∃ n, L.length = n := ⟨_, rfl⟩
  have HLn : Hid (L.length = n) := hn
  rw [hn] at HFr hL
  clear h hD hsz hok hn hT
  go_enter Tryz.func75, Tryz.ntmps75
  go_wp2_with (go_at_call 99; (with_reducible refine HFr.out.mono ?_); rintro e w1 ⟨A, c, rfl, HO, HB⟩)
  clear HFr
  go_loopw [7, 16] (fun v i wr => ∃ (j : Nat) (R : List Er), j ≤ n ∧ i = .int .i64 j ∧ Hid (EntsO wr w1.heap.size t k v R) ∧ Hid (R.map Er.tn = upTo D (L.take j)) ∧ Hid (Below w1.heap.size w1 wr)) (fun _ i _ => n - (intOf i).toNat)
  case atStart => exact ⟨0, [], Nat.zero_le _, rfl, ents_nil, (rfl : _ = _), Below.refl _ _⟩
  case round =>
    obtain ⟨j, R, hj, rfl, HR, HRt, HBr⟩ := hrel
    by_cases hlt : j < n
    · obtain ⟨g, rfl, hc1, hc2⟩ := row_someJ HO.out (by omega)
      have hje : j < L.length := by rw [HLn.out]; exact hlt
      obtain ⟨p, hp⟩ : ∃ p, L[j] = p := ⟨_, rfl⟩
      have hpm : p ∈ L := by rw [← hp]; exact List.getElem_mem hje
      have hx : ((L.map (bodyN t k)).map Value.string)[j]? = some (.string (bodyN t k p)) := by
        rw [List.getElem?_map, List.getElem?_map, List.getElem?_eq_getElem hje, hp]
        rfl
      have q0 : wr.cell? ⟨g, j, none⟩ = some (.string (bodyN t k p)) := by
        have h1 := World.ownsRow.cells (row_kept HO.out HBr.out) (g := g) rfl j _ hx
        rw [Addr.add_lit, Nat.zero_add] at h1
        exact h1
      have hun := upTo_next (D := D) hje
      rw [hp, ← HRt.out] at hun
      have hRl : R.length ≤ 1000 := by
        have h1 := congrArg List.length HRt.out
        rw [List.length_map] at h1
        have h2 : (upTo D (L.take j)).length ≤ (L.take j).length := List.length_filter_le _ _
        rw [List.length_take] at h2
        omega
      have HE1 := HE.out p wr hpm
      have HEp1 : Hid (∀ v u, Calls Tryz.prog 64 #[.agg #[.int .u64 (p.1 : Int), v]] u fun r w' => r = .returned (.int .i64 ((p.1 / 8388608 : Nat) : Int)) ∧ Below u.heap.size u w') := fun v u => HEp.out p v u hpm
      obtain ⟨M, hM⟩ : ∃ M, bodyN t k p = M := ⟨_, rfl⟩
      rw [hM] at q0 HE1
      obtain ⟨T1, n1⟩ := p
      simp only at HE1 HEp1 hun
      obtain ⟨Ep, hEp⟩ : ∃ q, T1 / 8388608 = q := ⟨_, rfl⟩
      rw [hEp] at HEp1 hun
      have hlI : (j : Int) < (n : Int) := by omega
      clear hx hM hp hpm hEp hje
      go_wp2_with (first
        | (go_at_call 101; (with_reducible refine HE1.mono ?_); rintro e w2 ⟨g1, x1, rfl, HN⟩)
        | (go_at_call 55; (with_reducible refine (HRf.out _).mono ?_); rintro e w4 ⟨rfl, rfl⟩))
      have hbA := (Below.refl w2.heap.size w2).alloc (Nat.le_refl _) (.cells #[.int .u64 (T1 : Int), .slice (some ⟨g1, 0, none⟩) 1 1] 42)
      have hcA := heap_new w2 (.cells #[.int .u64 (T1 : Int), .slice (some ⟨g1, 0, none⟩) 1 1] 42)
      refine (HEp1.out (.slice (some ⟨g1, 0, none⟩) 1 1) (w2.alloc (.cells #[.int .u64 (T1 : Int), .slice (some ⟨g1, 0, none⟩) 1 1] 42))).mono ?_
      rintro e w3 ⟨rfl, hb3⟩
      have hr3 : Below wr.heap.size wr w3 := by
        have h1 := HN.out.2.2.2.2
        have h2 := h1.trans (hbA.mono h1.size)
        exact h2.trans (hb3.mono h2.size)
      have h23 : Below w2.heap.size w2 w3 := hbA.trans (hb3.mono hbA.size)
      have hc3 := (hb3.block _ (lt_of hcA)).trans hcA
      have HB3 : Hid (Below w1.heap.size w1 w3) := HBr.out.trans (hr3.mono HBr.out.size)
      have HR3 : Hid (EntsO w3 w1.heap.size t k u7 R) := HR.out.below hr3
      have HE3 : Hid (w3.heap[g1]? = some (boxJ t k x1) ∧ OneAt w3 x1 2 (n1 : Int) ByteArray.empty ∧ w1.heap.size ≤ g1 ∧ w1.heap.size ≤ x1 ∧ u7.ownBlock ≠ some g1 ∧ u7.ownBlock ≠ some x1) := by
        obtain ⟨p1, p2, p3, p4, p5⟩ := HN.out
        have hbs := HBr.out.size
        refine ⟨(h23.block _ (lt_of p1)).trans p1, p2.below h23, by omega, by omega, fun e => ?_, fun e => ?_⟩
        · have := (World.ownsRow.lt HR.out.row _ e).2; omega
        · have := (World.ownsRow.lt HR.out.row _ e).2; omega
      have m0 : w3.cell? ⟨w2.heap.size, 0, none⟩ = some (.int .u64 (T1 : Int)) := by rw [cell_of hc3]; rfl
      have m1 : w3.cell? ⟨w2.heap.size, 1, none⟩ = some (.slice (some ⟨g1, 0, none⟩) 1 1) := by rw [cell_of hc3]; rfl
      clear hbA hcA hb3 hr3 h23 hc3 HE1 HN q0 HR HBr
      by_cases hle : Ep ≤ D
      · rw [if_pos hle] at hun
        have HRt2 : Hid ((R ++ [Er.mk T1 n1 g1 x1]).map Er.tn = upTo D (L.take (j + 1))) := by
          show _ = _
          rw [hun, List.map_append]
          rfl
        have hleI : (Ep : Int) ≤ (D : Int) := by omega
        clear hun
        go_wp2_with (at_builtin; go_must (refine wpList_ent rfl _ _ rfl w1.heap.size t k u7 R rfl ?q1 (Er.mk T1 n1 g1 x1) w3.heap.size 1 rfl ?q2 ?q3 (by omega) ?q4 ?_))
        case q1 => exact HR3.out.below ((Below.refl _ _).alloc (Nat.le_refl _) _)
        case q2 =>
          have h := heap_new w3 (.cells #[.int .u64 (T1 : Int), .slice (some ⟨g1, 0, none⟩) 1 1] 42)
          first
            | exact h
            | exact (Array.getElem?_eq_some_iff.1 h).2
        case q3 =>
          obtain ⟨p1, p2, p3⟩ := HE3.out
          have hb := (Below.refl w3.heap.size w3).alloc (Nat.le_refl _) (.cells #[.int .u64 (T1 : Int), .slice (some ⟨g1, 0, none⟩) 1 1] 42)
          exact ⟨(hb.block _ (lt_of p1)).trans p1, p2.below hb, p3⟩
        case q4 => have := HB3.out.size; simp; omega
        intro v' w5 HR5 HT5
        have HB5 : Hid (Below w1.heap.size w1 w5) := by
          have h1 := HB3.out.alloc HB3.out.size (.cells #[.int .u64 (T1 : Int), .slice (some ⟨g1, 0, none⟩) 1 1] 42)
          refine h1.trans ((HT5.out.mono (S' := fun i => w1.heap.size ≤ i) (fun i hi => ?_)).toBelow h1.size)
          exact (World.ownsRow.lt HR3.out.row _ hi).1
        go_wp2_with fail
        exact ⟨⟨j + 1, R ++ [Er.mk T1 n1 g1 x1], by omega, by go_num, HR5, HRt2, HB5⟩, by simp [intOf]; omega⟩
      · rw [if_neg hle] at hun
        have HRt2 : Hid (R.map Er.tn = upTo D (L.take (j + 1))) := hun.symm
        have hleI : ¬ (Ep : Int) ≤ (D : Int) := by omega
        clear hun
        go_wp2_with fail
        exact ⟨⟨j + 1, R, by omega, by go_num, HR3, HRt2, HB3⟩, by simp [intOf]; omega⟩
    · obtain rfl : j = n := by omega
      have hlI : ¬ (j : Int) < (j : Int) := by omega
      have HE2 : Hid (R.map Er.tn = upTo D L) := by
        show _ = _
        rw [HRt.out, List.take_of_length_le (by rw [HLn.out]; exact Nat.le_refl _)]
      clear HRt
      go_wp2
      go_ret
      exact ⟨u7, rfl, R, HR.out.low HB.out.size, HE2, HB.out.trans (HBr.out.mono HB.out.size)⟩
end Go.Proofs.YtigegdelhpdlhaaGreatDoor

/- The library contract that the proofs of this seat lean on (an insertion sort), laid at its program. -/
namespace Go.Proofs
open Go.Shelf
def Tryz.laysIns_ren : Go.Shelf.Ren := ⟨fun | 20 => 125 | n => n, fun | 24 => 42 | 22 => 38 | 3 => 3 | 25 => 128 | 4 => 4 | 0 => 0 | n => n, fun | n => n⟩
theorem Tryz.laysIns : Go.Proofs.SlLaysF0.n20 Tryz.prog Tryz.laysIns_ren := {
  mixed := by kernel_rfl
  f20 := ⟨Tryz.f125.name, by decide, Tryz.func125.trans (congrArg some (by kernel_rfl))⟩
  t0 := Tryz.underlying0
  a0 := Tryz.isAgg0
  z0 := Tryz.sizeOf0
  v0 := Tryz.zeroValue0
  t3 := Tryz.underlying3
  a3 := Tryz.isAgg3
  z3 := Tryz.sizeOf3
  v3 := Tryz.zeroValue3
  t4 := Tryz.underlying4
  a4 := Tryz.isAgg4
  z4 := Tryz.sizeOf4
  v4 := Tryz.zeroValue4
  t22 := Tryz.underlying38
  a22 := Tryz.isAgg38
  z22 := Tryz.sizeOf38
  v22 := Tryz.zeroValue38
  t25 := Tryz.underlying128
  a25 := Tryz.isAgg128
  z25 := Tryz.sizeOf128
  v25 := Tryz.zeroValue128 }
end Go.Proofs
