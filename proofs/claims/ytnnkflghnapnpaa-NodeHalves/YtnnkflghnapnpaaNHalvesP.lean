/- Two halves beside blocks of the law's own; texts one behind the other. -/
import Derived.Test.YtnnkflghnapnpaaNMap
import Derived.Test.YtnnkflghnapnpaaNCountsP
import Derived.Test.YtnnkflghnapnpaaNTexts
import Derived.Test.YtnnkflghnapnpaaCopy
import Derived.Maps.OwnOps
namespace Go.Proofs.Ytnnkflghnapnpaa
open Go.RowKit Go.Maps

section
variable {w wr w' : World} {L : List (Nat × Obj)} {I : World → (Nat → Prop) → Prop}

/-- a block that a call has made -/
theorem Stand.fresh (R : Res I) (h : Stand I w wr L) (hb : Below wr.heap.size wr w') {b : Nat} {o : Obj} (hn : wr.heap.size ≤ b) (ho : w'.heap[b]? = some o) : Stand I w w' ((b, o) :: L) := by
  obtain ⟨F, h1, h2, h3, h4, h5⟩ := h
  refine ⟨F, R.kept (S := fun _ => False) h1 (Turn.ofBelow _ hb) (fun _ _ h => h), h2, fun p hp hF => ?_, fun p hp => ?_, h5.trans (hb.mono h5.size)⟩
  · rcases List.mem_cons.1 hp with rfl | hp
    · have := R.lt h1 _ hF
      dsimp only at this
      omega
    · exact h3 p hp hF
  · rcases List.mem_cons.1 hp with rfl | hp
    · exact ⟨ho, Nat.le_trans h5.size hn⟩
    · exact ⟨(hb.block p.1 (lt_of (h4 p hp).1)).trans (h4 p hp).1, (h4 p hp).2⟩

abbrev Two (g : Nat) (a : Nd) (q : Nat) (b : Nd) (w wr : World) (L : List (Nat × Obj)) : Prop := Stand (Sep (NodeI g a) (NodeI q b)) w wr L
variable {g q : Nat} {a b : Nd} {k : ByteArray}
theorem Two.left (h : Two g a q b w wr L) : ∃ F, NodeI g a wr F := by obtain ⟨F, ⟨A, B, k1, _⟩, _⟩ := h; exact ⟨A, k1⟩
theorem Two.right (h : Two g a q b w wr L) : ∃ F, NodeI q b wr F := by obtain ⟨F, ⟨A, B, _, k2, _⟩, _⟩ := h; exact ⟨B, k2⟩
theorem Two.getL {v : Int} {t : Bool} (h : Two g a q b w wr L) (hp : GetsTo a k v t) :
    Calls Try.prog 23 #[.pointer (some ⟨g, 0, none⟩), .string k] wr fun x w' => x = .returned (.tuple #[.int .i64 v, .bool t]) ∧ Hid (Two g a q b w w' L) := by
  obtain ⟨F, h1⟩ := Two.left h
  exact (get_to hp h1).mono fun x w' ⟨e, m, hw⟩ => ⟨e, hw ▸ Stand.drewN (pair_res _ _ _ _) h m⟩
theorem Two.getR {v : Int} {t : Bool} (h : Two g a q b w wr L) (hp : GetsTo b k v t) :
    Calls Try.prog 23 #[.pointer (some ⟨q, 0, none⟩), .string k] wr fun x w' => x = .returned (.tuple #[.int .i64 v, .bool t]) ∧ Hid (Two g a q b w w' L) := by
  obtain ⟨F, h1⟩ := Two.right h
  exact (get_to hp h1).mono fun x w' ⟨e, m, hw⟩ => ⟨e, hw ▸ Stand.drewN (pair_res _ _ _ _) h m⟩
theorem Two.keysL (h : Two g a q b w wr L) :
    Calls Try.prog 30 #[.pointer (some ⟨g, 0, none⟩)] wr fun x w' => ∃ c, x = .returned (.slice (some ⟨c, 0, none⟩) a.keys.length a.keys.length) ∧ Hid (Two g a q b w w' ((c, textsO a.keys) :: L)) := by
  obtain ⟨F, h1⟩ := Two.left h
  exact (keys_any h1).mono fun x w' ⟨c, e1, e2, e3, e4⟩ => ⟨c, e1, Stand.fresh (pair_res _ _ _ _) h e4 e2 e3⟩
theorem Two.keysR (h : Two g a q b w wr L) :
    Calls Try.prog 30 #[.pointer (some ⟨q, 0, none⟩)] wr fun x w' => ∃ c, x = .returned (.slice (some ⟨c, 0, none⟩) b.keys.length b.keys.length) ∧ Hid (Two g a q b w w' ((c, textsO b.keys) :: L)) := by
  obtain ⟨F, h1⟩ := Two.right h
  exact (keys_any h1).mono fun x w' ⟨c, e1, e2, e3, e4⟩ => ⟨c, e1, Stand.fresh (pair_res _ _ _ _) h e4 e2 e3⟩
end

/-! ### texts one behind the other -/
theorem scells_append (A B : List ByteArray) : scells (A ++ B) = scells A ++ scells B := by simp [scells]
theorem infoS : (Try.prog.info? 9).map (fun i => (i.zero, i.size, i.bytes)) = some (some (.string ⟨#[]⟩), 1, 16) := by kernel_rfl

theorem wpList_wanted {P : Program} {w : World} {ops : Array Oper} {rest : List Oper} {o : Oper} {a : Act} {Q : Exit → Act → World → Prop} (hw : Region.wanted o (yielded ops a.tmps) = true)
    (h : ∀ K : Act → World → Prop, (∀ a w, wpList P ops Q rest a w → K a w) → o.wp P a w K Q) : wpList P ops Q (o :: rest) a w := wpList_step fun K hK => by rw [if_pos hw]; exact h K hK

theorem wpList_appS {w : World} {ops : Array Oper} {rest : List Oper} {o : Oper} {a : Act} {Q : Exit → Act → World → Prop} (hw : Region.wanted o (yielded ops a.tmps) = true) (s x : Operand)
    (hop : o.op = .call { callee := .builtin .append, args := #[s, x], argTypes := #[51, 51] }) {base : Nat} {v : Value} {A K : List ByteArray} {b m : Nat}
    (hs : a.eval s = v) (hown : w.ownsRow base 9 1 v A.length (scells A)) (hx : a.eval x = .slice (some ⟨b, 0, none⟩) m m) (hm : K.length = m) (ht : TextsAt w b K) (hA : A.length + K.length ≤ 1000) (hbase : base ≤ w.heap.size)
    (h : ∀ v' w', w'.ownsRow base 9 1 v' (A ++ K).length (scells (A ++ K)) → Below base w w' → wpList Try.prog ops Q rest (a.put o.dst v') w') : wpList Try.prog ops Q (o :: rest) a w := by
  obtain ⟨i, hi, hz, hsz, hby⟩ := info_parts infoS
  subst hm
  refine wpList_wanted hw fun KK hKK => ?_
  refine wp_append_own _ s x 51 hop base 9 i (.string ⟨#[]⟩) 1 16 Try.underlying51 hi hz hsz hby rfl (by decide) v A.length (scells A) hs hown ⟨b, 0, none⟩ K.length K.length (scells K) hx (by rw [scells_length, Nat.mul_one]) (fun j u hu => ?_) (fun u hu => ?_) (by unfold maxLen; omega) (by omega) hbase (fun v' w' h1 h2 _ => ?_)
  · rw [Addr.add_lit, Nat.zero_add, cell_of ht, List.getElem?_toArray]
    exact hu
  · obtain ⟨y, _, rfl⟩ := List.mem_map.1 hu
    rfl
  · refine hKK _ _ (h v' w' (by rw [List.length_append, scells_append]; exact h1) ?_)
    have ht : Turn (fun i => base ≤ i) w w' := Turn.ofGrown h2 (fun g hg => by
      obtain ⟨cur, _, hb⟩ := ownsRow_own hown hg
      exact hb)
    exact ht.toBelow hbase

theorem row_texts {w : World} {base : Nat} {v : Value} {K : List ByteArray} (h : w.ownsRow base 9 1 v K.length (scells K)) : SliceAt w v 1 enS K := by
  refine own_slice (en := enS) (base := base) (e := 9) (fun _ => rfl) ?_
  have e : ∀ K : List ByteArray, flat enS K = scells K := by
    intro K
    unfold flat scells enS
    induction K with
    | nil => rfl
    | cons x K ih =>
      rw [List.flatMap_cons, ih]
      rfl
  rw [e]
  exact h

theorem wpList_look1 {w : World} {ops : Array Oper} {rest : List Oper} {o : Oper} {a : Act} {Q : Exit → Act → World → Prop} (hw : Region.wanted o (yielded ops a.tmps) = true) (m x : Operand) (hop : o.op = Op.lookup 50 m x false) {mb c : Nat} {ks : List Kv} (hm : a.eval m = .map (some mb)) (h : MapIs w mb c ks) {k : ByteArray} (hx : a.eval x = .string k) (hs : k.size ≤ maxLen) {v : Int} (hG : (k, v) ∈ ks)
    (hK : wpList Try.prog ops Q rest (a.put o.dst (.int .i64 v)) w) : wpList Try.prog ops Q (o :: rest) a w := by
  obtain ⟨D, h1, h2⟩ := h
  refine wpList_wanted hw fun K' hK' => ?_
  obtain ⟨c, hrun, hat, hwc⟩ := h1.lookup_int lawS Try.underlying50 Try.underlying3 (zeroI _) (WideMaps.keyOf_string_mk Try.underlying9 hs)
  obtain ⟨h3, h4⟩ := h2.yes k v hG
  rw [h4] at hat
  injection hat with hat
  injection hat with _ hat
  subst hat
  unfold Oper.wp
  simp [execOp, hop, hm, hx, hrun, Result.andThen]
  exact hK' _ _ hK

/-! ### plain -/
section
variable {n : Nd} {y : Nat} {k : ByteArray} {v : Int}
theorem take_putL (ho : n.Ok) (h : n.ks[y]? = some (k, v)) : PutL (n.ks.take y) (n.ks.take (y + 1)) k v := by
  have hy := (List.getElem?_eq_some_iff.1 h).1
  have e : n.ks.take (y + 1) = n.ks.take y ++ [(k, v)] := by rw [List.take_add_one, h]; rfl
  have hno : k ∉ (n.ks.take y).map (·.1) := fun hm => by
    obtain ⟨p, hp, hpk⟩ := List.mem_map.1 hm
    obtain ⟨j, hj⟩ := List.getElem?_of_mem hp
    have hjl := (List.getElem?_eq_some_iff.1 hj).1
    rw [List.length_take] at hjl
    rw [List.getElem?_take_of_lt (by omega)] at hj
    have := ho.one hj h hpk
    omega
  refine ⟨?_, fun a ha => ?_, fun a b hab => ?_⟩
  · rw [if_neg (fun e => hno (hasK_iff.1 e)), e, List.length_append]; rfl
  · rw [e, List.map_append] at ha
    exact ⟨fun e2 => ha (List.mem_append_right _ (by simp [e2])), fun hm => ha (List.mem_append_left _ hm)⟩
  · rw [e] at hab
    rcases List.mem_append.1 hab with h1 | h1
    · exact Or.inr ⟨fun e2 => hno (List.mem_map.2 ⟨_, h1, e2⟩), h1⟩
    · obtain ⟨rfl, rfl⟩ : a = k ∧ b = v := by simpa using h1
      exact Or.inl ⟨rfl, rfl⟩

theorem halves_keys : n.left.keys ++ n.right.keys = n.keys := by
  show (n.ks.take n.stay).map _ ++ (n.ks.drop n.stay).map _ = n.ks.map _
  rw [← List.map_append, List.take_append_drop]
theorem left_len : n.left.keys.length = n.stay := by
  show ((n.ks.take n.stay).map _).length = _
  rw [List.length_map, List.length_take]
  unfold Nd.stay
  omega
theorem right_len : n.right.keys.length = n.ks.length / 2 := by
  show ((n.ks.drop n.stay).map _).length = _
  rw [List.length_map, List.length_drop]
  unfold Nd.stay
  omega
theorem right_first {p : Kv} (h : n.ks[n.stay]? = some p) : n.right.keys[0]? = some p.1 := by
  show ((n.ks.drop n.stay).map _)[0]? = _
  rw [List.getElem?_map, List.getElem?_drop, Nat.add_zero, h]
  rfl
theorem left_gets (ho : n.Ok) (h : n.ks[y]? = some (k, v)) (hy : y < n.stay) : GetsTo n.left k v true ∧ GetsTo n.right k 0 false := by
  refine ⟨.some y v (by show (n.ks.take n.stay)[y]? = _; rw [List.getElem?_take_of_lt hy]; exact h), .none fun hm => ?_⟩
  obtain ⟨p, hp, hpk⟩ := List.mem_map.1 hm
  obtain ⟨j, hj⟩ := List.getElem?_of_mem (show p ∈ n.ks.drop n.stay from hp)
  rw [List.getElem?_drop] at hj
  have := ho.one hj h hpk
  omega
theorem right_gets (ho : n.Ok) (h : n.ks[y]? = some (k, v)) (hy : ¬ y < n.stay) : GetsTo n.left k 0 false ∧ GetsTo n.right k v true := by
  refine ⟨.none fun hm => ?_, .some (y - n.stay) v (by show (n.ks.drop n.stay)[y - n.stay]? = _; rw [List.getElem?_drop, show n.stay + (y - n.stay) = y by omega]; exact h)⟩
  obtain ⟨p, hp, hpk⟩ := List.mem_map.1 hm
  obtain ⟨j, hj⟩ := List.getElem?_of_mem (show p ∈ n.ks.take n.stay from hp)
  have hjl := (List.getElem?_eq_some_iff.1 hj).1
  rw [List.length_take] at hjl
  rw [List.getElem?_take_of_lt (by omega)] at hj
  have := ho.one hj h hpk
  omega
end

theorem strs_open {w : World} {v : Value} {L : List ByteArray} (h : SliceAt w v 1 enS L) : ∃ a c, v = .slice a L.length c ∧ L.length ≤ c ∧ c ≤ maxLen ∧ (∀ u, Below w.heap.size w u → ∀ i, (hi : i < L.length) → ∃ b off, a = some ⟨b, off, none⟩ ∧ u.cell? ⟨b, off + i, none⟩ = some (.string L[i])) := by
  obtain ⟨a, c, rfl, h1, h2, hx⟩ := h
  refine ⟨a, c, rfl, h1, h2, fun u hu i hi => ?_⟩
  obtain ⟨b, off, e, hl, hc⟩ := hx (fun e => by rw [e] at hi; simp at hi)
  refine ⟨b, off, e, ?_⟩
  rw [hu.cell (p := ⟨b, off + i, none⟩) hl]
  have := hc i hi 0 _ rfl
  rw [Nat.mul_one, Nat.add_zero] at this
  exact this

end Go.Proofs.Ytnnkflghnapnpaa
