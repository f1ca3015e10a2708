/- Layer 24 in plain words: a block, and what it makes of the state. Nothing here speaks of a program. -/
import Derived.Test.YtibglhlhogfdnaaDoorQPure
namespace Go.Proofs.YtibglhlhogfdnaaDoor
namespace QP

def M : Nat := 4294967296
def w4 (a b c d : Nat) : Nat := a * 16777216 ||| b * 65536 ||| c * 256 ||| d
def wordAt (m : List Nat) (t : Nat) : Nat := w4 (m.getD (4 * t) 0) (m.getD (4 * t + 1) 0) (m.getD (4 * t + 2) 0) (m.getD (4 * t + 3) 0)
def f16 (m : List Nat) : Nat → List Nat
  | 0 => []
  | t + 1 => f16 m t ++ [wordAt m t]
def nxtW (x15 x2 x7 x16 : Nat) : Nat := (s1 x2 + x7 + s0 x15 + x16) % 4294967296
def nxt (W : List Nat) : Nat := nxtW (W.getD (W.length - 15) 0) (W.getD (W.length - 2) 0) (W.getD (W.length - 7) 0) (W.getD (W.length - 16) 0)
def sch (m : List Nat) : Nat → List Nat
  | 0 => f16 m 16
  | n + 1 => sch m n ++ [nxt (sch m n)]
def rnd (k w : Nat) : List Nat → List Nat
  | [a, b, c, d, e, f, g, h] => [((h + S1 e + ch e f g + k + w) % 4294967296 + (S0 a + maj a b c) % 4294967296) % 4294967296, a, b, c, (d + (h + S1 e + ch e f g + k + w) % 4294967296) % 4294967296, e, f, g]
  | l => l
def rnds (W S : List Nat) : Nat → List Nat
  | 0 => S
  | t + 1 => rnd (K.getD t 0) (W.getD t 0) (rnds W S t)
def adds (V S : List Nat) : List Nat := List.zipWith (fun x y => (x + y) % 4294967296) V S
def blk (S m : List Nat) : List Nat := adds (rnds (sch m 48) S 64) S

def Small (X : List Nat) : Prop := ∀ x ∈ X, x < 4294967296
theorem Small.at {X : List Nat} (h : Small X) {i x : Nat} (hx : X[i]? = some x) : x < 4294967296 := h x (List.mem_of_getElem? hx)
theorem Small.snoc {X : List Nat} {x : Nat} (h : Small X) (hx : x < 4294967296) : Small (X ++ [x]) := fun y hy => by
  rcases List.mem_append.1 hy with hy | hy
  · exact h y hy
  · rw [List.mem_singleton.1 hy]; exact hx
theorem w4_lt {a b c d : Nat} (ha : a < 256) (hb : b < 256) (hc : c < 256) (hd : d < 256) : w4 a b c d < 4294967296 := by
  unfold w4
  exact or_lt (or_lt (or_lt (by omega) (by omega)) (by omega)) (by omega)
theorem byte_at {m : List Nat} (h : ∀ x ∈ m, x < 256) (i : Nat) : m.getD i 0 < 256 := by
  rw [List.getD_eq_getElem?_getD]
  cases hm : m[i]? with
  | none => decide
  | some x => exact h x (List.mem_of_getElem? hm)
theorem f16_length (m : List Nat) : ∀ t, (f16 m t).length = t
  | 0 => rfl
  | t + 1 => by simp [f16, f16_length m t]
theorem f16_small {m : List Nat} (h : ∀ x ∈ m, x < 256) : ∀ t, Small (f16 m t)
  | 0 => fun x hx => by cases hx
  | t + 1 => (f16_small h t).snoc (w4_lt (byte_at h _) (byte_at h _) (byte_at h _) (byte_at h _))
theorem sch_length (m : List Nat) : ∀ n, (sch m n).length = 16 + n
  | 0 => f16_length m 16
  | n + 1 => by simp [sch, sch_length m n]; omega
theorem sch_small {m : List Nat} (h : ∀ x ∈ m, x < 256) : ∀ n, Small (sch m n)
  | 0 => f16_small h 16
  | n + 1 => (sch_small h n).snoc (Nat.mod_lt _ (by decide))
theorem rnd_ok (k w : Nat) {V : List Nat} (h : V.length = 8) (hs : Small V) : (rnd k w V).length = 8 ∧ Small (rnd k w V) := by
  match V, h with
  | [a, b, c, d, e, f, g, h], _ =>
    refine ⟨rfl, fun x hx => ?_⟩
    unfold rnd at hx
    simp only [List.mem_cons, List.not_mem_nil, or_false] at hx
    rcases hx with rfl | rfl | rfl | rfl | rfl | rfl | rfl | rfl
    · exact Nat.mod_lt _ (by decide)
    · exact hs _ (by simp)
    · exact hs _ (by simp)
    · exact hs _ (by simp)
    · exact Nat.mod_lt _ (by decide)
    · exact hs _ (by simp)
    · exact hs _ (by simp)
    · exact hs _ (by simp)
theorem rnds_ok {S : List Nat} (W : List Nat) (h : S.length = 8) (hs : Small S) : ∀ t, (rnds W S t).length = 8 ∧ Small (rnds W S t)
  | 0 => ⟨h, hs⟩
  | t + 1 => rnd_ok _ _ (rnds_ok W h hs t).1 (rnds_ok W h hs t).2
theorem adds_length {V S : List Nat} (h : V.length = S.length) : (adds V S).length = S.length := by simp [adds, h]
theorem adds_small (V S : List Nat) : Small (adds V S) := fun x hx => by
  unfold adds at hx
  rw [List.mem_iff_getElem] at hx
  obtain ⟨i, hi, rfl⟩ := hx
  rw [List.getElem_zipWith]
  exact Nat.mod_lt _ (by decide)
theorem blk_length {S : List Nat} (m : List Nat) (h : S.length = 8) (hs : Small S) : (blk S m).length = 8 := by
  unfold blk
  rw [adds_length (by rw [(rnds_ok _ h hs 64).1, h]), h]
theorem blk_small (S m : List Nat) : Small (blk S m) := adds_small _ _
theorem eight {V : List Nat} (h : V.length = 8) : ∃ a b c d e f g h, V = [a, b, c, d, e, f, g, h] := by
  match V, h with
  | [a, b, c, d, e, f, g, h], _ => exact ⟨a, b, c, d, e, f, g, h, rfl⟩
/-- a row of 64, its first words there and the rest 0 -/
def part64 (W : List Nat) : List Nat := W ++ List.replicate (64 - W.length) 0
theorem part64_length {W : List Nat} (h : W.length ≤ 64) : (part64 W).length = 64 := by unfold part64; simp; omega
theorem part64_set {W : List Nat} (h : W.length < 64) (y : Nat) : (part64 W).set W.length y = part64 (W ++ [y]) := by
  unfold part64
  rw [List.set_append_right _ _ (Nat.le_refl _), Nat.sub_self]
  have e : 64 - W.length = (64 - (W ++ [y]).length) + 1 := by simp; omega
  rw [e, List.replicate_succ, List.set_cons_zero]
  simp
theorem part64_at {W : List Nat} {i x : Nat} (h : W[i]? = some x) : (part64 W)[i]? = some x := by
  unfold part64
  rw [List.getElem?_append_left (List.getElem?_eq_some_iff.1 h).1]
  exact h
theorem part64_full {W : List Nat} (h : W.length = 64) : part64 W = W := by unfold part64; rw [h]; simp
/-- the sums so far, and the words behind them -/
def mixS (V S : List Nat) (i : Nat) : List Nat := (adds V S).take i ++ V.drop i
theorem mixS_zero (V S : List Nat) : mixS V S 0 = V := by simp [mixS]
theorem mixS_full {V S : List Nat} (h : V.length = 8) (h2 : S.length = 8) : mixS V S 8 = adds V S := by
  unfold mixS
  rw [List.take_of_length_le (by rw [adds_length (by omega)]; omega), List.drop_of_length_le (by omega), List.append_nil]
theorem mixS_at {V S : List Nat} {i : Nat} (h : V.length = 8) (h2 : S.length = 8) (hi : i < 8) : (mixS V S i)[i]? = some (V[i]'(by omega)) := by
  unfold mixS
  have e : ((adds V S).take i).length = i := by rw [List.length_take, adds_length (by omega)]; omega
  rw [List.getElem?_append_right (by omega), e, Nat.sub_self, List.getElem?_drop, Nat.add_zero, List.getElem?_eq_getElem (by omega)]
theorem mixS_length {V S : List Nat} {i : Nat} (h : V.length = 8) (h2 : S.length = 8) (hi : i ≤ 8) : (mixS V S i).length = 8 := by
  unfold mixS
  rw [List.length_append, List.length_take, adds_length (by omega), List.length_drop]; omega
theorem mixS_set {V S : List Nat} {i : Nat} (h : V.length = 8) (h2 : S.length = 8) (hi : i < 8) : (mixS V S i).set i ((V[i]'(by omega) + S[i]'(by omega)) % 4294967296) = mixS V S (i + 1) := by
  unfold mixS
  have hl : i < (adds V S).length := by rw [adds_length (by omega)]; omega
  have e : ((adds V S).take i).length = i := by rw [List.length_take]; omega
  rw [List.set_append_right _ _ (by omega), e, Nat.sub_self, List.drop_eq_getElem_cons (by omega : i < V.length), List.set_cons_zero, List.take_succ_eq_append_getElem hl, List.append_assoc]
  congr 1
  simp [adds]
end QP
end Go.Proofs.YtibglhlhogfdnaaDoor
