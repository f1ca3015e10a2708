/- Layer 24 in plain words: a digest piece by piece. Nothing here speaks of a program. -/
import Derived.Test.YtibglhlhogfdnaaDoorQSum
namespace Go.Proofs.YtibglhlhogfdnaaDoor
namespace QP

theorem chunk_append {m : List Nat} (y : List Nat) {i : Nat} (h : 64 * (i + 1) ≤ m.length) : chunk (m ++ y) i = chunk m i := by
  unfold chunk
  rw [List.drop_append_of_le_length (by omega), List.take_append_of_le_length (by rw [List.length_drop]; omega)]
theorem blks_append {S m : List Nat} (y : List Nat) : ∀ {q : Nat}, 64 * q ≤ m.length → blks S (m ++ y) q = blks S m q
  | 0, _ => rfl
  | q + 1, h => by
    show blk (blks S (m ++ y) q) (chunk (m ++ y) q) = blk (blks S m q) (chunk m q)
    rw [blks_append y (by omega), chunk_append y (by omega)]

/-- what a hash keeps of the bytes m: the state behind the whole blocks, and a row of 64 that opens with the others -/
structure Keeps (S B m : List Nat) : Prop where
  st : S = blks H0 m (m.length / 64)
  fr : B.take (m.length % 64) = m.drop (64 * (m.length / 64))
  len : B.length = 64
  by' : Bytes B
theorem Keeps.s8 {S B m : List Nat} (h : Keeps S B m) : S.length = 8 ∧ Small S := by rw [h.st]; exact blks_ok m H0_length H0_small _
theorem Keeps.start {B : List Nat} (h : B.length = 64) (hb : Bytes B) : Keeps H0 B [] := ⟨rfl, rfl, h, hb⟩

/-- the row behind a copy of Y into it from place r on -/
def into (B Y : List Nat) (r : Nat) : List Nat := B.take r ++ Y ++ B.drop (r + Y.length)
theorem into_length {B Y : List Nat} {r : Nat} (h : r + Y.length ≤ B.length) : (into B Y r).length = B.length := by
  unfold into
  rw [List.length_append, List.length_append, List.length_take, List.length_drop]
  omega
theorem into_bytes {B Y : List Nat} (r : Nat) (hB : Bytes B) (hY : Bytes Y) : Bytes (into B Y r) := by
  refine Bytes.append (Bytes.append (fun x hx => hB x (List.mem_of_mem_take hx)) hY) (fun x hx => hB x (List.mem_of_mem_drop hx))
theorem into_take {B Y : List Nat} {r : Nat} (h : r + Y.length ≤ B.length) : (into B Y r).take (r + Y.length) = B.take r ++ Y := by
  unfold into
  rw [List.take_append_of_le_length (by rw [List.length_append, List.length_take]; omega)]
  exact List.take_of_length_le (by rw [List.length_append, List.length_take]; omega)
theorem Keeps.front {S B m : List Nat} (h : Keeps S B m) (Y : List Nat) (hY : m.length % 64 + Y.length ≤ 64) : (into B Y (m.length % 64)).take (m.length % 64 + Y.length) = (m ++ Y).drop (64 * (m.length / 64)) := by
  rw [into_take (by rw [h.len]; exact hY), h.fr, List.drop_append_of_le_length (by omega)]
/-- bytes that do not fill the row -/
theorem Keeps.part {S B m : List Nat} (h : Keeps S B m) {Y : List Nat} (hb : Bytes Y) (hY : m.length % 64 + Y.length < 64) : Keeps S (into B Y (m.length % 64)) (m ++ Y) := by
  have e1 : (m ++ Y).length / 64 = m.length / 64 := by rw [List.length_append]; omega
  have e2 : (m ++ Y).length % 64 = m.length % 64 + Y.length := by rw [List.length_append]; omega
  refine ⟨?_, ?_, by rw [into_length (by rw [h.len]; omega), h.len], into_bytes _ h.by' hb⟩
  · rw [e1, blks_append Y (by omega), ← h.st]
  · rw [e1, e2, h.front Y (by omega)]
/-- bytes that fill it: the block is mixed in -/
theorem Keeps.full {S B m : List Nat} (h : Keeps S B m) {Y : List Nat} (hb : Bytes Y) (hY : m.length % 64 + Y.length = 64) : Keeps (blk S (into B Y (m.length % 64))) (into B Y (m.length % 64)) (m ++ Y) := by
  have e1 : (m ++ Y).length / 64 = m.length / 64 + 1 := by rw [List.length_append]; omega
  have e2 : (m ++ Y).length % 64 = 0 := by rw [List.length_append]; omega
  have hl : (into B Y (m.length % 64)).length = 64 := by rw [into_length (by rw [h.len]; omega), h.len]
  have hc : into B Y (m.length % 64) = chunk (m ++ Y) (m.length / 64) := by
    have h1 := h.front Y (by omega)
    rw [hY, List.take_of_length_le (by omega)] at h1
    rw [h1]
    unfold chunk
    rw [List.take_of_length_le (by rw [List.length_drop, List.length_append]; omega)]
  refine ⟨?_, ?_, hl, into_bytes _ h.by' hb⟩
  · rw [e1]
    show _ = blk (blks H0 (m ++ Y) (m.length / 64)) (chunk (m ++ Y) (m.length / 64))
    rw [blks_append Y (by omega), ← h.st, ← hc]
  · rw [e1, e2]
    rw [List.take_zero, List.drop_of_length_le (by rw [List.length_append]; omega)]
/-- what stands behind a message of so many bytes -/
def tail (n : Nat) : List Nat := [128] ++ List.replicate (padZ n) 0 ++ be (n * 8) 8
theorem tail_bytes (n : Nat) : Bytes (tail n) := ((Bytes.one (by decide)).append (zeros_bytes _)).append (be_bytes _ _)
theorem padded_tail (m : List Nat) : padded m = m ++ tail m.length := by unfold padded tail; simp
theorem tail_length (n : Nat) : (tail n).length = 9 + padZ n := by unfold tail; rw [List.length_append, List.length_append, List.length_replicate, be_length, List.length_singleton]; omega
theorem Keeps.ended {S B m : List Nat} (h : Keeps S B (m ++ tail m.length)) : S.flatMap b4 = dig m := by
  unfold dig
  rw [h.st, ← padded_tail, padded_blocks, Nat.mul_div_cancel_left _ (by decide)]
/-- the highest k of M bytes of N -/
def ap (N M : Nat) : Nat → List Nat
  | 0 => []
  | k + 1 => ap N M k ++ [N / 2 ^ (8 * (M - 1 - k)) % 256]
theorem ap_length (N M : Nat) : ∀ k, (ap N M k).length = k
  | 0 => rfl
  | k + 1 => by show (ap N M k ++ _).length = _; rw [List.length_append, ap_length N M k]; rfl
theorem ap_be (N : Nat) : ∀ k, ap N 8 k = be N k
  | 0 => rfl
  | k + 1 => by show ap N 8 k ++ _ = be N k ++ _; rw [ap_be N k]
theorem ap_b4 {x : Nat} (h : x < 4294967296) : ap x 4 4 = b4 x := by
  have e : ap x 4 4 = [x / 16777216 % 256, x / 65536 % 256, x / 256 % 256, x / 1 % 256] := rfl
  rw [e, Nat.div_one, Nat.mod_eq_of_lt (show x / 16777216 < 256 by omega)]
  rfl
end QP
end Go.Proofs.YtibglhlhogfdnaaDoor
