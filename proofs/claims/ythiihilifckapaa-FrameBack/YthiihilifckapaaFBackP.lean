/- Many frames, one behind the other. Pure. -/
import Derived.Test.YthiihilifckapaaFPlace
import Derived.Test.YthiihilifckapaaFRefE
namespace Go.Proofs.Ythiihilifckapaa
open Go.RowKit

/-- those that can be framed -/
def goods (M : List ByteArray) : List ByteArray := M.filter fun s => decide (s.size ≤ 65536)

/-- their frames, one behind the other -/
def flatF (M : List ByteArray) : List UInt8 := M.flatMap fun s => (frameB s).data.toList

def textsOf (M : List ByteArray) : List (List UInt8) := M.map fun s => s.data.toList

theorem goods_le (M : List ByteArray) : ∀ s ∈ goods M, s.size ≤ 65536 := fun s h => by
  have := (List.mem_filter.1 h).2
  simpa using this

theorem goods_take {M : List ByteArray} {j : Nat} (hj : j < M.length) : goods (M.take (j + 1)) = if M[j].size ≤ 65536 then goods (M.take j) ++ [M[j]] else goods (M.take j) := by
  rw [List.take_succ_eq_append_getElem hj, goods, List.filter_append]
  by_cases h : M[j].size ≤ 65536
  · rw [if_pos h]
    simp [goods, h]
  · rw [if_neg h]
    simp [goods, h]

theorem flatF_snoc (M : List ByteArray) (s : ByteArray) : flatF (M ++ [s]) = flatF M ++ (frameB s).data.toList := by
  simp [flatF]

theorem textsOf_snoc (M : List ByteArray) (s : ByteArray) : textsOf (M ++ [s]) = textsOf M ++ [s.data.toList] := by
  simp [textsOf]

theorem flatF_le (M : List ByteArray) (h : ∀ s ∈ M, s.size ≤ 65536) : (flatF M).length ≤ M.length * 65544 := by
  induction M with
  | nil => simp [flatF]
  | cons s M ih =>
    have h1 := ih fun t ht => h t (List.mem_cons_of_mem _ ht)
    have h2 := h s (List.mem_cons_self ..)
    have h3 : (frameB s).data.toList.length = s.size + 8 := frameB_size s
    have e : flatF (s :: M) = (frameB s).data.toList ++ flatF M := rfl
    rw [e, List.length_append, h3, List.length_cons]
    omega

theorem frames_flat (b : ByteArray) (rest : List UInt8) : ∀ (M : List ByteArray) (pre : List UInt8), (∀ s ∈ M, s.size ≤ 65536) → b.data.toList = pre ++ flatF M ++ rest → (found b (pre ++ flatF M).length).code ≠ 0 →
    framesAt b pre.length = (textsOf M, (pre ++ flatF M).length)
  | [], pre, _, _, hc => by
    have e : pre ++ flatF [] = pre := by simp [flatF]
    rw [e] at hc ⊢
    exact framesAt_end hc
  | s :: M, pre, hM, hb, hc => by
    have e : flatF (s :: M) = (frameB s).data.toList ++ flatF M := rfl
    have h2 := hM s (List.mem_cons_self ..)
    have h3 : (frameB s).data.toList.length = s.size + 8 := frameB_size s
    rw [e, ← List.append_assoc] at hb hc ⊢
    have hf := found_frame b s pre (flatF M ++ rest) (by rw [hb, List.append_assoc (pre ++ _)]) h2
    have ih := frames_flat b rest M (pre ++ (frameB s).data.toList) (fun t ht => hM t (List.mem_cons_of_mem _ ht)) hb hc
    have hk : (found b pre.length).stop = (((pre ++ (frameB s).data.toList).length : Nat) : Int) := by
      rw [hf, List.length_append, h3]
      dsimp only
      omega
    rw [framesAt_next (by rw [hf]) hk, ih, hf]
    rfl

theorem frames_of (b : ByteArray) (rest : List UInt8) (M : List ByteArray) (hM : ∀ s ∈ M, s.size ≤ 65536) (hb : b.data.toList = flatF M ++ rest) (hc : (found b (flatF M).length).code ≠ 0) : frames b = (textsOf M, (flatF M).length) :=
  frames_flat b rest M [] hM hb hc

theorem end_none (b : ByteArray) (l : List UInt8) (hb : b.data.toList = l) : (found b l.length).code ≠ 0 := by
  have hs : b.size = l.length := by rw [← hb]; rfl
  unfold found
  rw [if_neg (by omega), if_pos (by omega)]
  show (61 : Int) ≠ 0
  decide

theorem end_ff (b : ByteArray) (l : List UInt8) (hb : b.data.toList = l ++ [255, 255, 255, 255]) : (found b l.length).code ≠ 0 := by
  have hs : b.size = l.length + 4 := by
    have h : b.data.toList.length = b.size := rfl
    rw [← h, hb, List.length_append]
    rfl
  have ht : (l.length : Int).toNat = l.length := by omega
  have hl : lenAt b l.length = 4294967295 := by
    unfold lenAt
    rw [extract_list, hb, List.take_of_length_le (by simp), List.drop_left]
    rfl
  unfold found
  rw [if_neg (by omega), ht, if_neg (by omega), hl, if_pos (by decide)]
  show (2 : Int) ≠ 0
  decide

theorem frames_all (b : ByteArray) (M : List ByteArray) (hM : ∀ s ∈ M, s.size ≤ 65536) (hb : b.data.toList = flatF M) : frames b = (textsOf M, (flatF M).length) :=
  frames_of b [] M hM (by rw [hb, List.append_nil]) (end_none b _ hb)

theorem frames_ff (b : ByteArray) (M : List ByteArray) (hM : ∀ s ∈ M, s.size ≤ 65536) (hb : b.data.toList = flatF M ++ [255, 255, 255, 255]) : frames b = (textsOf M, (flatF M).length) :=
  frames_of b _ M hM hb (end_ff b _ hb)

end Go.Proofs.Ythiihilifckapaa
