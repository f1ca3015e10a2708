/- Where the document's catalogue lies: its struct, its row of schemas; its Names. -/
import Derived.Test.YtnboanlhdllhnaaGreatZUsP
import Derived.Test.YtnboanlhdllhnaaGreatZOrderPJ
namespace Go.Proofs.YtnboanlhdllhnaaGreat
open Go.RowKit

def enG (g : Ge) : List Value := [.string g.T.nm, g.cv, .int .i64 g.T.key, g.iv]
theorem infoTab : (Tryz.prog.info? 32).map (fun i => (i.zero, i.size, i.bytes)) = some (some (.agg #[.string ⟨#[]⟩, .slice none 0 0, .int .i64 0, .slice none 0 0]), 4, 72) := by kernel_rfl
theorem infoS : (Tryz.prog.info? 9).map (fun i => (i.zero, i.size, i.bytes)) = some (some (.string ⟨#[]⟩), 1, 16) := by kernel_rfl

structure RcG (w : World) (c : Nat) (S : Sl) (G : List Ge) : Prop where
  top : w.heap[c]? = some (.cells #[S.v] 28 (0, 0))
  row : w.ownsRow 0 32 4 S.v S.n (flat enG G)
  len : G.length = S.n
  tabs : ∀ g ∈ G, TabO w 0 g.cv g.iv g.X g.T ∧ MayT g.T
  few : G.length ≤ 4096
def rcFoot (c : Nat) (S : Sl) (G : List Ge) (i : Nat) : Prop := i = c ∨ S.v.ownBlock = some i ∨ ∃ g ∈ G, g.foot i
/-- the schemas by their names -/
def catOf (G : List Ge) : Cat := G.map fun g => (kb g.T.nm, g.T)

section
variable {w w' u : World} {c : Nat} {S : Sl} {G : List Ge}
theorem RcG.lt (h : RcG w c S G) {i : Nat} (hi : rcFoot c S G i) : i < w.heap.size := by
  rcases hi with rfl | hi | ⟨g, hg, hi⟩
  · exact lt_of h.top
  · exact (World.ownsRow.lt h.row i hi).2
  · exact ((h.tabs g hg).1.lt hi).2
theorem RcG.kept (h : RcG w c S G) (e : ∀ i, rcFoot c S G i → w'.heap[i]? = w.heap[i]?) : RcG w' c S G :=
  ⟨(e c (Or.inl rfl)).trans h.top, ownsRow_block h.row fun i hi => e i (Or.inr (Or.inl hi)), h.len, fun g hg => ⟨(h.tabs g hg).1.block fun i hi => e i (Or.inr (Or.inr ⟨g, hg, hi⟩)), (h.tabs g hg).2⟩, h.few⟩
theorem RcG.below (h : RcG w c S G) (hb : Below w.heap.size w w') : RcG w' c S G := h.kept fun i hi => hb.block i (h.lt hi)
theorem RcG.cell (h : RcG w c S G) : w.cell? ⟨c, 0, none⟩ = some S.v := by rw [cell_of h.top]; rfl
/-- a schema's rows lie elsewhere than rows of other things -/
theorem TabO.not_type {base i : Nat} {g : Ge} {cs : Array Value} {t : TypeId} {fz : Nat × Nat} (ht : TabO w base g.cv g.iv g.X g.T) (hb : w.heap[i]? = some (.cells cs t fz)) (h1 : t ≠ 70) (h2 : t ≠ 64) (h3 : t ≠ 3) : ¬ g.foot i := fun hi => by
  rcases hi with hi | hi | ⟨x, hx, hi⟩
  · exact row_not ht.co hb (Ne.symm h1) hi
  · exact row_not ht.ix hb (Ne.symm h2) hi
  · exact row_not (ht.nums x hx) hb (Ne.symm h3) hi
theorem own_at_block {base : Nat} {e : TypeId} {size : Nat} {v : Value} {n : Nat} {xs : List Value} (h : w.ownsRow base e size v n xs) {i : Nat} (hi : v.ownBlock = some i) : ∃ cur, w.heap[i]? = some (.cells cur e (0, 0)) := by
  obtain ⟨cur, hc, _⟩ := ownsRow_own h hi
  exact ⟨cur, hc⟩

/-- one schema more at the end -/
theorem RcG.add (h : RcG w c S G) {A' : Option Addr} {m' : Nat} {g : Ge} (ht : Turn (fun i => S.v.ownBlock = some i) w u)
    (hrow : u.ownsRow 0 32 4 (.slice A' (S.n + 1) m') (S.n + 1) (flat enG (G ++ [g]))) (hw : ∀ i, (Value.slice A' (S.n + 1) m').ownBlock = some i → S.v.ownBlock = some i ∨ w.heap.size ≤ i) (hg : TabO w 0 g.cv g.iv g.X g.T) (hm : MayT g.T) (hl : S.n < 4096) :
    RcG (u.setCell ⟨c, 0, none⟩ (.slice A' (S.n + 1) m')) c ⟨A', S.n + 1, m'⟩ (G ++ [g]) ∧ (∀ i, rcFoot c ⟨A', S.n + 1, m'⟩ (G ++ [g]) i → rcFoot c S G i ∨ g.foot i ∨ w.heap.size ≤ i) ∧ Turn (fun i => S.v.ownBlock = some i ∨ i = c) w (u.setCell ⟨c, 0, none⟩ (.slice A' (S.n + 1) m')) := by
  have hc := lt_of h.top
  have r1 : ¬ S.v.ownBlock = some c := row_not h.row h.top (by decide)
  have ht2 : Turn (fun i => i = c) u (u.setCell ⟨c, 0, none⟩ (.slice A' (S.n + 1) m')) := Turn.setCell (S := fun i => i = c) u ⟨c, 0, none⟩ _ rfl
  have ht3 : Turn (fun i => S.v.ownBlock = some i ∨ i = c) w (u.setCell ⟨c, 0, none⟩ (.slice A' (S.n + 1) m')) := (ht.mono fun _ => Or.inl).trans (ht2.mono fun _ => Or.inr)
  have hnew : ∀ i, (Value.slice A' (S.n + 1) m').ownBlock = some i → i ≠ c := fun i hi => by
    rcases hw i hi with k | k
    · exact fun e => r1 (by rw [← e]; exact k)
    · omega
  have htab : ∀ g' : Ge, TabO w 0 g'.cv g'.iv g'.X g'.T → TabO (u.setCell ⟨c, 0, none⟩ (.slice A' (S.n + 1) m')) 0 g'.cv g'.iv g'.X g'.T := fun g' h' =>
    h'.block fun i hi => ht3.block i (h'.lt hi).2 (fun e => by
      rcases e with e | e
      · obtain ⟨cur, hcur⟩ := own_at_block h.row e
        exact TabO.not_type h' hcur (by decide) (by decide) (by decide) hi
      · rw [e] at hi
        exact TabO.not_type h' h.top (by decide) (by decide) (by decide) hi)
  refine ⟨⟨heap_setCell_same ((ht.block c hc r1).trans h.top) 0 _, ownsRow_block hrow fun i hi => ht2.block i (World.ownsRow.lt hrow i hi).2 (hnew i hi), by simp [h.len], fun g' hg' => ?_, by rw [List.length_append, h.len, List.length_singleton]; omega⟩, fun i hi => ?_, ht3⟩
  · rcases List.mem_append.1 hg' with k | k
    · exact ⟨htab g' (h.tabs g' k).1, (h.tabs g' k).2⟩
    · rw [List.mem_singleton.1 k]; exact ⟨htab g hg, hm⟩
  · rcases hi with hi | hi | ⟨g', hg', hi⟩
    · exact Or.inl (Or.inl hi)
    · rcases hw i hi with k | k
      · exact Or.inl (Or.inr (Or.inl k))
      · exact Or.inr (Or.inr k)
    · rcases List.mem_append.1 hg' with k | k
      · exact Or.inl (Or.inr (Or.inr ⟨g', k, hi⟩))
      · rw [List.mem_singleton.1 k] at hi; exact Or.inr (Or.inl hi)

/-- reading its row -/
theorem RcG.rows (h : RcG w c S G) : ∀ u, Below w.heap.size w u → ∀ i g, G[i]? = some g → ∃ b off, S.a = some ⟨b, off, none⟩ ∧ u.cell? ⟨b, off + i * 4, none⟩ = some (.string g.T.nm) ∧ u.cell? ⟨b, off + i * 4 + 1, none⟩ = some g.cv ∧ u.cell? ⟨b, off + i * 4 + 2, none⟩ = some (.int .i64 g.T.key) ∧ u.cell? ⟨b, off + i * 4 + 3, none⟩ = some g.iv := fun u hu i g hg => by
  have hs : SliceAt w S.v 4 enG G := own_slice (en := enG) (fun _ => rfl) (by rw [h.len]; exact h.row)
  obtain ⟨a, c', e, _, _, hx⟩ := hs.opened
  obtain ⟨hi, rfl⟩ := List.getElem?_eq_some_iff.1 hg
  obtain ⟨b, off, e2, _, hc⟩ := hx u hu i hi
  have e3 : S.a = a := by
    simp only [Sl.v, Value.slice.injEq] at e
    exact e.1
  exact ⟨b, off, e3.trans e2, hc 0 _ rfl, hc 1 _ rfl, hc 2 _ rfl, hc 3 _ rfl⟩
end

/-- the document's catalogue in block c -/
def RcI (c : Nat) (L : Cat) (w : World) (F : Nat → Prop) : Prop := ∃ S G, RcG w c S G ∧ L = catOf G ∧ ∀ i, F i ↔ rcFoot c S G i
theorem rcI_res (c : Nat) (L : Cat) : Res (RcI c L) := by
  refine ⟨fun {w F} h i hi => ?_, fun {w w' F S} h ht hS => ?_⟩
  · obtain ⟨m, G, h1, _, h3⟩ := h
    exact h1.lt ((h3 i).1 hi)
  · obtain ⟨m, G, h1, h2, h3⟩ := h
    exact ⟨m, G, h1.kept fun i hi => ht.block i (h1.lt hi) (hS i ((h3 i).2 hi)), h2, h3⟩

theorem str_at (w : World) (x : ByteArray) : ∀ j u, (enS x)[j]? = some u → (w.alloc (.cells #[.string x] 9 (0, 0))).cell? ⟨w.heap.size, j, none⟩ = some u := fun j u hu => by
  rw [cell_of (heap_new w _)]
  simpa [enS] using hu
theorem one_str (x : ByteArray) : ∀ u ∈ enS x, u.oneCell' = true := fun u hu => by
  rw [List.mem_singleton.1 hu]; rfl

set_option maxRecDepth 100000 in
set_option maxHeartbeats 1000000 in
theorem rnames_any {w : World} {c : Nat} {S : Sl} {G : List Ge} (h : RcG w c S G) :
    Calls Tryz.prog 23 #[.pointer (some ⟨c, 0, none⟩)] w fun e w' => ∃ A n cap, e = .returned (.slice A n cap) ∧ Hid (n = G.length ∧ w'.ownsRow w.heap.size 9 1 (.slice A n cap) n (flat enS (G.map fun g => g.T.nm)) ∧ Below w.heap.size w w') := by
  obtain ⟨SA, SN, SC⟩ := S
  have HC : Hid (∀ u, Below w.heap.size w u → u.cell? ⟨c, 0, none⟩ = some (.slice SA SN SC)) := fun u hu => (h.below hu).cell
  have HX : Hid (∀ u, Below w.heap.size w u → ∀ i g, G[i]? = some g → ∃ b off, SA = some ⟨b, off, none⟩ ∧ u.cell? ⟨b, off + i * 4, none⟩ = some (.string g.T.nm)) := fun u hu i g hg => by
    obtain ⟨b, off, e, h0, _⟩ := h.rows u hu i g hg
    exact ⟨b, off, e, h0⟩
  have HL : Hid (G.length = SN) := h.len
  have hfew : SN ≤ 4096 := by have := h.few; have := h.len; dsimp only at this; omega
  have hsc : SN ≤ SC := by
    have hs : SliceAt w (.slice SA SN SC) 4 enG G := own_slice (en := enG) (fun _ => rfl) (by rw [h.len]; exact h.row)
    obtain ⟨a, c', e, h1, _⟩ := hs
    simp only [Value.slice.injEq] at e
    omega
  obtain ⟨K, hK⟩ : ∃ K, (G.map fun g => g.T.nm) = K := ⟨_, rfl⟩
  have HK : Hid ((G.map fun g => g.T.nm) = K) := hK
  rw [hK]
  clear h hK
  go_enter Tryz.func23, Tryz.ntmps23
  go_wp2_with fail
  go_loopw [3, 4] (fun v i wr => ∃ (j : Nat) (A : Option Addr) (n cap : Nat), j ≤ SN ∧ i = .int .i64 j ∧ v = .slice A n cap ∧ Hid (n = j ∧ wr.ownsRow w.heap.size 9 1 (.slice A n cap) n (flat enS (K.take j)) ∧ Below w.heap.size w wr)) (fun _ i _ => SN - (intOf i).toNat)
  case atStart => exact ⟨0, none, 0, 0, Nat.zero_le _, rfl, rfl, rfl, World.ownsRow_nil _ _ _ _, Below.refl _ _⟩
  case round =>
    obtain ⟨j, A, n, cap, hj, rfl, rfl, HQ⟩ := hrel
    have q0 := HC.out wr HQ.out.2.2
    have hn4 : n ≤ 1000000 := by have := HQ.out.1; omega
    by_cases hlt : j < SN
    · have hlI : (j : Int) < (SN : Int) := by omega
      obtain ⟨g, hg⟩ : ∃ g, G[j]? = some g := ⟨_, List.getElem?_eq_getElem (by rw [HL.out]; exact hlt)⟩
      obtain ⟨b, off, rfl, q1⟩ := HX.out wr HQ.out.2.2 j g hg
      have HKj : Hid (K[j]? = some g.T.nm) := by show _ = _; rw [← HK.out, List.getElem?_map, hg]; rfl
      obtain ⟨nm, hnm⟩ : ∃ nm, g.T.nm = nm := ⟨_, rfl⟩
      rw [hnm] at q1 HKj
      have HTk : Hid (K.take (j + 1) = K.take j ++ [nm]) := by show _ = _; rw [List.take_add_one, HKj.out]; rfl
      clear hg hnm
      have HR : Hid ((wr.alloc (.cells #[.string nm] 9)).ownsRow 0 9 1 (.slice A n cap) n (flat enS (K.take j))) := ownsRow_low (ownsRow_block HQ.out.2.1 fun g hg => Below.heap_alloc wr _ g (World.ownsRow.lt HQ.out.2.1 g hg).2) (Nat.zero_le _)
      go_wp2_with (at_builtin; go_must (refine wpList_append_one rfl _ _ 52 rfl 9 (.string ⟨#[]⟩) 1 16 Tryz.underlying52 infoS rfl (by decide) (by decide) enS (fun _ => rfl) (K.take j) nm (one_str nm) A n cap rfl HR.out hn4 wr.heap.size rfl (str_at wr nm) ?_; intro A' m' w5 r1 r2 r3))
      go_roundw
      case rel =>
        refine ⟨j + 1, A', n + 1, m', by omega, by go_num, rfl, by rw [HQ.out.1], ?_, ?_⟩
        · rw [HTk.out]
          refine ownsRow_up r1.out fun g hg => ?_
          rcases r3.out g hg with k | k
          · exact (World.ownsRow.lt HQ.out.2.1 g k).1
          · have := HQ.out.2.2.size
            simp at k
            omega
        · exact (HQ.out.2.2.alloc HQ.out.2.2.size _).trans ((r2.out.mono (S' := fun i => w.heap.size ≤ i) (fun i hi => (World.ownsRow.lt HQ.out.2.1 i hi).1)).toBelow (by have := HQ.out.2.2.size; simp; omega))
      case measure => simp [intOf]; omega
    · have hlI : ¬ (j : Int) < (SN : Int) := by omega
      go_wp2_with fail
      go_ret
      refine ⟨A, n, cap, rfl, by rw [HL.out]; have := HQ.out.1; omega, ?_, HQ.out.2.2⟩
      have := HQ.out.2.1
      rw [List.take_of_length_le (by rw [← HK.out, List.length_map, HL.out]; omega)] at this
      exact this

end Go.Proofs.YtnboanlhdllhnaaGreat
