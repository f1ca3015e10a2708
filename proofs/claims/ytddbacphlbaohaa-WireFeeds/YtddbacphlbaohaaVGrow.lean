/- Rows of texts of a law's own that grow beside its reader. -/
import Derived.Test.YtddbacphlbaohaaVWorks
import Derived.Laws.AppendOwnNone
namespace Go.Proofs.Ytddbacphlbaohaa
open Go.RowKit

def OwnT (w : World) (base : Nat) (v : Value) (L : List (List UInt8)) : Prop := w.ownsRow base 9 1 v L.length (L.map Go.Proofs.encStr)

/-- texts put behind a row of the law's own -/
theorem wpList_texts {ops : Array Oper} {rest : List Oper} {o : Oper} {a : Act} {Q : Exit → Act → World → Prop} (hgd : o.guard = none) (s x : Operand)
    (ho : o.op = .call { callee := .builtin .append, args := #[s, x], argTypes := #[22, 22] })
    (base base' : Nat) (v vx : Value) (L M : List (List UInt8)) (w : World) (hs : a.eval s = v) (hown : OwnT w base v L) (hx : a.eval x = vx) (hM : RowS w base' vx M)
    (hL : L.length + M.length ≤ 100000000) (hbase : base ≤ w.heap.size)
    (h : ∀ v' w', OwnT w' base v' (L ++ M) → w.grownBy w' v.ownBlock → (v'.ownBlock = v.ownBlock ∨ v'.ownBlock = some w.heap.size) → wpList Try.prog ops Q rest (a.put o.dst v') w') :
    wpList Try.prog ops Q (o :: rest) a w := by
  obtain ⟨i0, hi, hz0, hz1, hz2⟩ := infoStr_parts
  obtain ⟨ax, c, rfl, -, -, hn, hc⟩ := hM
  cases ax with
  | none =>
    have hM : M = [] := by
      cases M with
      | nil => rfl
      | cons y r =>
        obtain ⟨b, off, C, e, -⟩ := hc (by simp)
        cases e
    subst hM
    rw [hn rfl] at hx
    refine wpList_append_own_none hgd s x 22 ho base 9 i0 1 Try.underlying22 hi v L.length (L.map Go.Proofs.encStr) hs hown hx ?_
    have hown' : OwnT w base v (L ++ []) := by rw [List.append_nil]; exact hown
    exact h v w hown' ⟨rfl, rfl, rfl, Nat.le_refl _, fun _ _ _ => rfl⟩ (Or.inl rfl)
  | some ad =>
    refine wpList_append_own_at _ hgd s x 22 ho base 9 i0 (.string ByteArray.empty) 1 16 Try.underlying22 hi hz0 hz1 hz2 rfl (by decide) v L.length (L.map Go.Proofs.encStr) hs hown ad M.length c (M.map Go.Proofs.encStr) hx (by simp) ?_ ?_ (by unfold maxLen; omega) (by omega) hbase ?_
    · intro j u hj
      have hjl : j < M.length := by
        have := (List.getElem?_eq_some_iff.1 hj).1
        simpa using this
      obtain ⟨b, off, C, e, -, h3, h4⟩ := hc (fun e => by rw [e] at hjl; simp at hjl)
      injection e with e
      subst e
      rw [Addr.add_lit, cell_of h3, h4 j hjl]
      simp [hjl] at hj
      rw [hj]
    · intro u hu
      obtain ⟨y, -, rfl⟩ := List.mem_map.1 hu
      rfl
    · intro v' w' h1 h2 _ h4
      refine h v' w' ?_ h2 h4
      unfold OwnT
      rw [List.map_append, List.length_append]
      exact h1

variable {K : Kit} {g : Nat} {r : Rd} {w wr w' : World} {F F' : Nat → Prop}

theorem On.grow (hO : On K g r w wr F) {v v' : Value} {L : List (List UInt8)} (hv : OwnT wr w.heap.size v L) (ha : Apart F v) (hg : wr.grownBy w' v.ownBlock) {H : Nat} (hat : v'.ownBlock = v.ownBlock ∨ v'.ownBlock = some H) (hH : wr.heap.size = H) : On K g r w w' F ∧ Apart F v' := by
  subst hH
  refine ⟨hO.turns (Turn.ofGrown (S := fun i => v.ownBlock = some i) hg fun k hk => hk) (fun i hi h => ha i h hi) (fun i h => (World.ownsRow.lt hv i h).1), fun i hi hf => ?_⟩
  rcases hat with e | e
  · exact ha i (e ▸ hi) hf
  · rw [e] at hi
    injection hi with hi
    have := (K.res g r).lt hO.at_ i hf
    omega

/-- two rows that share no block -/
def Two (v v2 : Value) : Prop := ∀ i, v.ownBlock = some i → v2.ownBlock ≠ some i

theorem Two.nil (v : Value) : Two (.slice none 0 0) v := fun _ h => by cases h

theorem OwnT.other {base2 : Nat} {v v' v2 : Value} {L2 : List (List UInt8)} (h2 : OwnT wr base2 v2 L2) (ht : Two v v2) (hg : wr.grownBy w' v.ownBlock) {H : Nat} (hat : v'.ownBlock = v.ownBlock ∨ v'.ownBlock = some H) (hH : wr.heap.size = H) : OwnT w' base2 v2 L2 ∧ Two v' v2 := by
  subst hH
  refine ⟨ownsRow_block h2 fun i hi => hg.block i (World.ownsRow.lt h2 i hi).2 (fun e => ht i e.symm hi), fun i hi h3 => ?_⟩
  have hl := (World.ownsRow.lt h2 i h3).2
  rcases hat with e | e
  · exact ht i (e ▸ hi) h3
  · rw [e] at hi
    injection hi with hi
    omega

theorem OwnT.fed {base : Nat} {v : Value} {L : List (List UInt8)} (h : OwnT wr base v L) (ha : Apart F v) (ht : Turn F wr w') (hF : ∀ i, F' i → F i ∨ wr.heap.size ≤ i) : OwnT w' base v L ∧ Apart F' v := row_fed h ha ht hF

theorem OwnT.kept {base : Nat} {v : Value} {L : List (List UInt8)} (h : OwnT wr base v L) (hb : Below wr.heap.size wr w') : OwnT w' base v L := row_kept h hb

theorem OwnT.strs {base : Nat} {v : Value} {L : List (List UInt8)} (h : OwnT w base v L) : StrsAt w v L := (strs_of_row h).1

/-- one text, as it stands in a block of its own ahead of an append -/
theorem RowS.one (wr : World) (s : ByteArray) : RowS (wr.alloc (.cells #[.string s] 9)) 0 (.slice (some ⟨wr.heap.size, 0, none⟩) 1 1) [s.data.toList] := by
  refine ⟨_, 1, rfl, by simp, by unfold maxLen; omega, fun e => (by cases e), fun _ => ⟨wr.heap.size, 0, _, rfl, Nat.zero_le _, heap_new wr _, fun i hi => ?_⟩⟩
  have hi0 : i = 0 := by simpa using hi
  subst hi0
  show some (Value.string s) = _
  rw [← enc_self]
  rfl

end Go.Proofs.Ytddbacphlbaohaa
