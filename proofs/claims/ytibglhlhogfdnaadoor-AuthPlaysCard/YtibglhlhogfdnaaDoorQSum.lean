/- Layer 24 in plain words: the padded message, the digest, HMAC, digits. Nothing here speaks of a program. -/
import Derived.Test.YtibglhlhogfdnaaDoorQBlk
namespace Go.Proofs.YtibglhlhogfdnaaDoor
namespace QP

/-! ### bytes as numbers -/
def nb (s : ByteArray) : List Nat := s.data.toList.map UInt8.toNat
def ofN (L : List Nat) : ByteArray := ⟨(L.map UInt8.ofNat).toArray⟩
def Bytes (L : List Nat) : Prop := ∀ x ∈ L, x < 256
theorem nb_length (s : ByteArray) : (nb s).length = s.size := by unfold nb; rw [List.length_map]; rfl
theorem nb_bytes (s : ByteArray) : Bytes (nb s) := fun x hx => by
  obtain ⟨b, _, rfl⟩ := List.mem_map.1 hx
  exact UInt8.toNat_lt b
theorem ofN_nb (s : ByteArray) : ofN (nb s) = s := by
  unfold ofN nb
  rw [List.map_map]
  have e : (UInt8.ofNat ∘ UInt8.toNat) = id := by funext b; simp
  rw [e, List.map_id]
theorem nb_ofN {L : List Nat} (h : Bytes L) : nb (ofN L) = L := by
  unfold ofN nb
  rw [List.toList_toArray, List.map_map]
  conv => rhs; rw [← List.map_id L]
  refine List.map_congr_left fun x hx => ?_
  have := h x hx
  simp
  omega
theorem nb_append (a b : ByteArray) : nb (a ++ b) = nb a ++ nb b := by simp [nb]
theorem ofN_append (a b : List Nat) : ofN a ++ ofN b = ofN (a ++ b) := by
  apply ByteArray.ext
  simp [ofN]
theorem ofN_size (L : List Nat) : (ofN L).size = L.length := by
  show (L.map UInt8.ofNat).toArray.size = _
  simp
theorem nb_inj {a b : ByteArray} (h : nb a = nb b) : a = b := by rw [← ofN_nb a, h, ofN_nb]
theorem Bytes.append {a b : List Nat} (ha : Bytes a) (hb : Bytes b) : Bytes (a ++ b) := fun x hx => by
  rcases List.mem_append.1 hx with h | h
  · exact ha x h
  · exact hb x h
theorem Bytes.one {x : Nat} (h : x < 256) : Bytes [x] := fun y hy => by rw [List.mem_singleton.1 hy]; exact h

/-! ### the padded message -/
def padZ (n : Nat) : Nat := (119 - n % 64) % 64
def be (N : Nat) : Nat → List Nat
  | 0 => []
  | k + 1 => be N k ++ [N / 2 ^ (8 * (7 - k)) % 256]
def padded (m : List Nat) : List Nat := m ++ [128] ++ List.replicate (padZ m.length) 0 ++ be (m.length * 8) 8
theorem be_length (N : Nat) : ∀ k, (be N k).length = k
  | 0 => rfl
  | k + 1 => by simp [be, be_length N k]
theorem be_bytes (N : Nat) : ∀ k, Bytes (be N k)
  | 0 => fun x hx => by cases hx
  | k + 1 => (be_bytes N k).append (Bytes.one (Nat.mod_lt _ (by decide)))
theorem zeros_bytes (z : Nat) : Bytes (List.replicate z 0) := fun x hx => by rw [(List.mem_replicate.1 hx).2]; decide
theorem padded_bytes {m : List Nat} (h : Bytes m) : Bytes (padded m) := ((h.append (Bytes.one (by decide))).append (zeros_bytes _)).append (be_bytes _ _)
theorem padded_length (m : List Nat) : (padded m).length = m.length + 9 + padZ m.length := by
  unfold padded
  rw [List.length_append, List.length_append, List.length_append, List.length_replicate, be_length, List.length_singleton]
  omega
/-- so many blocks -/
def many (n : Nat) : Nat := (n + 9 + padZ n) / 64
theorem padded_blocks (m : List Nat) : (padded m).length = 64 * many m.length := by
  rw [padded_length]
  unfold many padZ
  omega

/-! ### the digest -/
def chunk (M : List Nat) (i : Nat) : List Nat := (M.drop (64 * i)).take 64
def blks (S M : List Nat) : Nat → List Nat
  | 0 => S
  | i + 1 => blk (blks S M i) (chunk M i)
def b4 (x : Nat) : List Nat := [x / 16777216, x / 65536 % 256, x / 256 % 256, x % 256]
def dig (m : List Nat) : List Nat := (blks H0 (padded m) (many m.length)).flatMap b4
theorem chunk_length {M : List Nat} {i n : Nat} (h : M.length = 64 * n) (hi : i < n) : (chunk M i).length = 64 := by
  unfold chunk
  rw [List.length_take, List.length_drop]
  omega
theorem chunk_bytes {M : List Nat} (h : Bytes M) (i : Nat) : Bytes (chunk M i) := fun x hx => h x (List.mem_of_mem_drop (List.mem_of_mem_take hx))
theorem chunk_at {M : List Nat} {i j x : Nat} (h : (chunk M i)[j]? = some x) : M[64 * i + j]? = some x := by
  unfold chunk at h
  have hj : j < 64 := by
    have := (List.getElem?_eq_some_iff.1 h).1
    rw [List.length_take] at this
    omega
  rw [List.getElem?_take_of_lt hj, List.getElem?_drop] at h
  exact h
theorem H0_length : H0.length = 8 := by rw [H0_is]; rfl
theorem H0_small : Small H0 := by
  have h : H0.all (fun x => decide (x < 4294967296)) = true := by rw [H0_is]; rfl
  exact fun x hx => of_decide_eq_true (List.all_eq_true.1 h x hx)
theorem blks_ok {S : List Nat} (M : List Nat) (h : S.length = 8) (hs : Small S) : ∀ i, (blks S M i).length = 8 ∧ Small (blks S M i)
  | 0 => ⟨h, hs⟩
  | i + 1 => ⟨blk_length _ (blks_ok M h hs i).1 (blks_ok M h hs i).2, blk_small _ _⟩
theorem b4_bytes {x : Nat} (h : x < 4294967296) : Bytes (b4 x) := fun y hy => by
  simp only [b4, List.mem_cons, List.not_mem_nil, or_false] at hy
  rcases hy with rfl | rfl | rfl | rfl <;> omega
theorem flat_bytes {X : List Nat} (h : Small X) : Bytes (X.flatMap b4) := fun y hy => by
  obtain ⟨x, hx, hy⟩ := List.mem_flatMap.1 hy
  exact b4_bytes (h x hx) y hy
theorem dig_bytes (m : List Nat) : Bytes (dig m) := flat_bytes (blks_ok _ H0_length H0_small _).2
theorem dig_length (m : List Nat) : (dig m).length = 32 := by
  unfold dig
  obtain ⟨a, b, c, d, e, f, g, h, hX⟩ := eight (blks_ok (padded m) H0_length H0_small (many m.length)).1
  rw [hX]
  rfl

/-! ### HMAC -/
def key0 (k : List Nat) : List Nat := if 64 < k.length then dig k else k
def fill (k : List Nat) (by' : Nat) : List Nat := (List.range 64).map fun i => k.getD i 0 ^^^ by'
def mac (k m : List Nat) : List Nat := dig (fill (key0 k) 92 ++ dig (fill (key0 k) 54 ++ m))

/-! ### digits -/
def hx (d : Nat) : Nat := if d < 10 then 48 + d else 87 + d
def hex (m : List Nat) : List Nat := m.flatMap fun x => [hx (x / 16), hx (x % 16)]
def dgt (c : Nat) : Int := if 48 ≤ c ∧ c ≤ 57 then (c : Int) - 48 else if 97 ≤ c ∧ c ≤ 102 then (c : Int) - 87 else -1
def unhex : List Nat → Option (List Nat)
  | a :: b :: l => if dgt a < 0 ∨ dgt b < 0 then none else (unhex l).map fun r => (16 * dgt a + dgt b).toNat :: r
  | [] => some []
  | [_] => none
theorem abc_is : dig [97, 98, 99] = [0xba, 0x78, 0x16, 0xbf, 0x8f, 0x01, 0xcf, 0xea, 0x41, 0x41, 0x40, 0xde, 0x5d, 0xae, 0x22, 0x23, 0xb0, 0x03, 0x61, 0xa3, 0x96, 0x17, 0x7a, 0x9c, 0xb4, 0x10, 0xff, 0x61, 0xf2, 0x00, 0x15, 0xad] := by decide +kernel
theorem jefe_is : mac [74, 101, 102, 101] [119, 104, 97, 116, 32, 100, 111, 32, 121, 97, 32, 119, 97, 110, 116, 32, 102, 111, 114, 32, 110, 111, 116, 104, 105, 110, 103, 63] = [0x5b, 0xdc, 0xc1, 0x46, 0xbf, 0x60, 0x75, 0x4e, 0x6a, 0x04, 0x24, 0x26, 0x08, 0x95, 0x75, 0xc7, 0x5a, 0x00, 0x3f, 0x08, 0x9d, 0x27, 0x39, 0x83, 0x9d, 0xec, 0x58, 0xb9, 0x64, 0xec, 0x38, 0x43] := by decide +kernel
end QP
end Go.Proofs.YtibglhlhogfdnaaDoor
