/- Layer 24: a text as a row of bytes, a row of bytes as a text; two rows that grow side by side. -/
import Derived.Test.YtibglhlhogfdnaaDoorQRowM
import Derived.Test.YtibglhlhogfdnaaDoorQSum
namespace Go.Proofs.YtibglhlhogfdnaaDoor
open Go.RowKit QP

theorem okU64 : KindOk .u64 29 74 8 := ⟨Tryd.underlying74, by kernel_rfl, by decide⟩
theorem okU32 : KindOk .u32 77 76 4 := ⟨Tryd.underlying76, by kernel_rfl, by decide⟩
theorem okU8 : KindOk .u8 5 45 1 := ⟨Tryd.underlying45, by kernel_rfl, by decide⟩

theorem flat_nb (b : ByteArray) : flat (enK .u8) (nb b) = b.data.toList.map fun x => Value.int .u8 (x.toNat : Int) := by
  unfold nb
  generalize b.data.toList = l
  induction l with
  | nil => rfl
  | cons x l ih =>
    rw [List.map_cons, flat_cons, ih]
    rfl
theorem conv_m (b : ByteArray) (W : World) (hb : b.size ≤ maxLen) : ∃ u c, (convert 9 45 (.string b)).run Tryd.prog W = .ok (.slice (some ⟨W.heap.size, 0, none⟩) b.size c) u ∧ Below W.heap.size W u ∧ RowM .u8 5 u W.heap.size c (nb b) := by
  have hge := grownCap_ge W b.size 0 5
  have hle := grownCap_le_maxLen W b.size 0 5 hb
  have hsz : (Lib.bytesCells W 5 b).size = grownCap W b.size 0 5 := by
    unfold Lib.bytesCells
    have e : b.data.size = b.size := rfl
    simp only [Array.size_append, Array.size_map, Array.size_replicate, e]
    omega
  refine ⟨Lib.bytesWorld W 5 b, grownCap W b.size 0 5, Lib.run_convert_string_bytes W 9 45 5 b Tryd.underlying9 Tryd.underlying45 Tryd.underlying5, ⟨rfl, rfl, rfl, by rw [Lib.bytesWorld_size]; omega, fun j hj => Lib.bytesWorld_at_old W 5 b j hj⟩, _, _, Lib.bytesWorld_at_new W 5 b, Or.inr (Nat.le_refl _), by rw [nb_length]; exact hge, hle, hsz, ?_⟩
  rw [nb_length, flat_nb]
  unfold Lib.bytesCells
  rw [Array.toList_append, Array.toList_map, List.take_left' (by simp)]
theorem str_own {w : World} {base n c : Nat} {A : Option Addr} {L : List Nat} (h : w.ownsRow base 5 1 (.slice A n c) n (flat (enK .u8) L)) (hL : Bytes L) (hn : L.length = n) : (convert 45 9 (.slice A n c)).run Tryd.prog w = .ok (.string (ofN L)) w := by
  rcases h.2 with ⟨h1, hl⟩ | ⟨g, cap, cur, h1, -, -, -, -, -, -⟩
  · cases h1
    have e : L = [] := List.eq_nil_of_length_eq_zero hn
    subst e
    exact Lib.run_convert_nil_bytes w 45 9 5 0 Tryd.underlying45 Tryd.underlying5 Tryd.underlying9
  · cases h1
    subst hn
    have h2 := run_convert_bytes_back (P := Tryd.prog) w 45 9 5 ⟨g, 0, none⟩ c (L.map UInt8.ofNat) Tryd.underlying45 Tryd.underlying5 Tryd.underlying9 fun j hj => by
      have hj' : j < L.length := by simpa using hj
      have h3 := flat_get (en := enK .u8) (m := 1) (fun _ => rfl) L j hj' 0 (by omega)
      rw [Nat.one_mul, Nat.add_zero] at h3
      have h4 := World.ownsRow.cells h (g := g) rfl j (.int .u8 (L[j] : Int)) (by rw [h3]; rfl)
      rw [h4]
      have h5 := hL L[j] (List.getElem_mem hj')
      simp
      omega
    rw [List.length_map] at h2
    exact h2

/-- two rows of words, one beside the other -/
structure TwoW (w : World) (base : Nat) (v u : Value) (X Y : List Nat) : Prop where
  l : w.ownsRow base 77 1 v X.length (flat (enK .u32) X)
  r : w.ownsRow base 77 1 u Y.length (flat (enK .u32) Y)
  ap : ∀ x, v.ownBlock = some x → u.ownBlock ≠ some x
section
variable {w w' : World} {base : Nat} {v u v' : Value} {X Y X' : List Nat}
theorem TwoW.swap (h : TwoW w base v u X Y) : TwoW w base u v Y X := ⟨h.r, h.l, fun x h1 h2 => h.ap x h2 h1⟩
theorem TwoW.alloc (h : TwoW w base v u X Y) (o : Obj) : TwoW (w.alloc o) base v u X Y := ⟨h.l.alloc o, h.r.alloc o, h.ap⟩
theorem TwoW.left (h : TwoW w base v u X Y) (ho : w'.ownsRow base 77 1 v' X'.length (flat (enK .u32) X')) (hg : w.grownBy w' v.ownBlock) (hat : v'.ownBlock = v.ownBlock ∨ v'.ownBlock = some w.heap.size) : TwoW w' base v' u X' Y := by
  refine ⟨ho, h.r.kept hg ?_, fun x h1 h2 => ?_⟩
  · cases hu : u.ownBlock with
    | none => exact Or.inl rfl
    | some y => exact Or.inr fun e => h.ap y e.symm hu
  · rcases hat with e | e
    · exact h.ap x (e ▸ h1) h2
    · rw [e] at h1
      have := (World.ownsRow.lt h.r x h2).2
      injection h1 with h1
      omega
theorem TwoW.nil : TwoW w base (.slice none 0 0) (.slice none 0 0) [] [] := ⟨own_nil, own_nil, fun x h1 => by simp [Value.ownBlock] at h1⟩
end
end Go.Proofs.YtibglhlhogfdnaaDoor
