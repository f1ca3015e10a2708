/- Calls of a node beside blocks of the law's own: what each makes of it, and what it answers. -/
import Derived.Test.YtoknebbkpkcomaaNSplit
import Derived.Test.YtoknebbkpkcomaaNArgs
namespace Go.Proofs.Ytoknebbkpkcomaa
open Go.RowKit

abbrev Has (g : Nat) (n : Nd) (w wr : World) (L : List (Nat × Obj)) : Prop := Stand (NodeI g n) w wr L
abbrev textsO (K : List ByteArray) : Obj := .cells (scells K).toArray 9 (0, 0)
abbrev Num (v : Int) : Prop := -9223372036854775808 ≤ v ∧ v ≤ 9223372036854775807

def PutsTo (n : Nd) (k : ByteArray) (v : Int) (n' : Nd) (was : Int) (there : Bool) (e : Int) : Prop :=
  (4096 < k.size ∧ n' = n ∧ was = 0 ∧ there = false ∧ e = 2) ∨
  (∃ i : Nat, n.ks[i]? = some (k, was) ∧ n' = n.set i k v ∧ there = true ∧ e = 0) ∨
  (k ∉ n.keys ∧ k.size ≤ 4096 ∧ n.ks.length = 15 ∧ n' = n ∧ was = 0 ∧ there = false ∧ e = 120) ∨
  (∃ i, At k n.ks i ∧ (∀ v, n.ks[i]? ≠ some (k, v)) ∧ k.size ≤ 4096 ∧ n.ks.length < 15 ∧ n' = n.add i k v ∧ was = 0 ∧ there = false ∧ e = 0)
def TakesTo (n : Nd) (k : ByteArray) (n' : Nd) (was e : Int) : Prop :=
  (k ∉ n.keys ∧ n' = n ∧ was = 0 ∧ e = 5) ∨ (∃ i : Nat, n.ks[i]? = some (k, was) ∧ n' = n.del i ∧ e = 0)
def GetsTo (n : Nd) (k : ByteArray) (v : Int) (b : Bool) : Prop :=
  (k ∉ n.keys ∧ v = 0 ∧ b = false) ∨ (∃ i : Nat, n.ks[i]? = some (k, v) ∧ b = true)
theorem PutsTo.long {n : Nd} {k : ByteArray} {v : Int} (h : 4096 < k.size) : PutsTo n k v n 0 false 2 := Or.inl ⟨h, rfl, rfl, rfl, rfl⟩
theorem PutsTo.there {n : Nd} {k : ByteArray} {v : Int} (i : Nat) (v0 : Int) (h : n.ks[i]? = some (k, v0)) : PutsTo n k v (n.set i k v) v0 true 0 := Or.inr (Or.inl ⟨i, h, rfl, rfl, rfl⟩)
theorem PutsTo.full {n : Nd} {k : ByteArray} {v : Int} (h1 : k ∉ n.keys) (h2 : k.size ≤ 4096) (h3 : n.ks.length = 15) : PutsTo n k v n 0 false 120 := Or.inr (Or.inr (Or.inl ⟨h1, h2, h3, rfl, rfl, rfl, rfl⟩))
theorem PutsTo.new {n : Nd} {k : ByteArray} {v : Int} (i : Nat) (h1 : At k n.ks i) (h2 : ∀ v, n.ks[i]? ≠ some (k, v)) (h3 : k.size ≤ 4096) (h4 : n.ks.length < 15) : PutsTo n k v (n.add i k v) 0 false 0 := Or.inr (Or.inr (Or.inr ⟨i, h1, h2, h3, h4, rfl, rfl, rfl, rfl⟩))
theorem TakesTo.none {n : Nd} {k : ByteArray} (h : k ∉ n.keys) : TakesTo n k n 0 5 := Or.inl ⟨h, rfl, rfl, rfl⟩
theorem TakesTo.some {n : Nd} {k : ByteArray} (i : Nat) (v : Int) (h : n.ks[i]? = Option.some (k, v)) : TakesTo n k (n.del i) v 0 := Or.inr ⟨i, h, rfl, rfl⟩
theorem GetsTo.none {n : Nd} {k : ByteArray} (h : k ∉ n.keys) : GetsTo n k 0 false := Or.inl ⟨h, rfl, rfl⟩
theorem GetsTo.some {n : Nd} {k : ByteArray} (i : Nat) (v : Int) (h : n.ks[i]? = Option.some (k, v)) : GetsTo n k v true := Or.inr ⟨i, h, rfl⟩

theorem key_or (n : Nd) (k : ByteArray) : (∃ (i : Nat) (v : Int), n.ks[i]? = some (k, v)) ∨ k ∉ n.keys := by
  by_cases h : k ∈ n.keys
  · obtain ⟨⟨a, v⟩, hp, rfl⟩ := List.mem_map.1 h
    obtain ⟨i, hi⟩ := List.getElem?_of_mem hp
    exact Or.inl ⟨i, v, hi⟩
  · exact Or.inr h
theorem puts_ex {n : Nd} (ho : n.Ok) (k : ByteArray) (v : Int) : ∃ n' was there e, PutsTo n k v n' was there e := by
  by_cases h : 4096 < k.size
  · exact ⟨_, _, _, _, .long h⟩
  · rcases key_or n k with ⟨i, v0, hi⟩ | hk
    · exact ⟨_, _, _, _, .there i v0 hi⟩
    · by_cases hf : n.ks.length = 15
      · exact ⟨_, _, _, _, .full hk (by omega) hf⟩
      · obtain ⟨i, ha⟩ := at_ex k n.ks
        exact ⟨_, _, _, _, .new i ha (fun v hv => hk (List.mem_map.2 ⟨_, List.mem_of_getElem? hv, rfl⟩)) (by omega) (by have := ho.few; omega)⟩
theorem takes_ex (n : Nd) (k : ByteArray) : ∃ n' was e, TakesTo n k n' was e := by
  rcases key_or n k with ⟨i, v0, hi⟩ | hk
  · exact ⟨_, _, _, .some i v0 hi⟩
  · exact ⟨_, _, _, .none hk⟩
theorem gets_ex (n : Nd) (k : ByteArray) : ∃ v b, GetsTo n k v b := by
  rcases key_or n k with ⟨i, v0, hi⟩ | hk
  · exact ⟨_, _, .some i v0 hi⟩
  · exact ⟨_, _, .none hk⟩

section
variable {g : Nat} {n n' : Nd} {w wr : World} {F : Nat → Prop} {L : List (Nat × Obj)} {k : ByteArray}

theorem put_to {v was e : Int} {there : Bool} (hp : PutsTo n k v n' was there e) (h : NodeI g n w F) (hv : Num v) (hI : 0 ≤ n.ins ∧ n.ins < 900000) :
    Calls Try.prog 35 #[.pointer (some ⟨g, 0, none⟩), .string k, .int .i64 v] w fun x w' => x = .returned (.tuple #[.int .i64 was, .bool there, .int .i64 e]) ∧ Goes (NodeI g n') w w' F := by
  rcases hp with ⟨hl, rfl, rfl, rfl, rfl⟩ | ⟨i, hi, rfl, rfl, rfl⟩ | ⟨h1, h2, h3, rfl, rfl, rfl, rfl⟩ | ⟨i, h1, h2, h3, h4, rfl, rfl, rfl, rfl⟩
  · exact (put_long hl v g w).mono fun x w' ⟨h1, h2⟩ => ⟨h1, by subst h2; exact Goes.stay h⟩
  · exact put_there h hi hv
  · exact (put_full h h1 h2 h3 v).mono fun x w' ⟨h1, m, h2⟩ => ⟨h1, h2 ▸ Goes.drew (nodeI_res g _) h m⟩
  · exact put_new h h1 h2 h3 h4 hv (by omega)
theorem take_to {was e : Int} (hp : TakesTo n k n' was e) (h : NodeI g n w F) (hI : 0 ≤ n.ins ∧ n.ins < 900000) :
    Calls Try.prog 37 #[.pointer (some ⟨g, 0, none⟩), .string k] w fun x w' => x = .returned (.tuple #[.int .i64 was, .int .i64 e]) ∧ Goes (NodeI g n') w w' F := by
  rcases hp with ⟨hk, rfl, rfl, rfl⟩ | ⟨i, hi, rfl, rfl⟩
  · exact (take_no h hk).mono fun x w' ⟨h1, m, h2⟩ => ⟨h1, h2 ▸ Goes.drew (nodeI_res g _) h m⟩
  · exact take_yes h hi (by omega)
theorem get_to {v : Int} {b : Bool} (hp : GetsTo n k v b) (h : NodeI g n w F) :
    Calls Try.prog 34 #[.pointer (some ⟨g, 0, none⟩), .string k] w fun x w' => x = .returned (.tuple #[.int .i64 v, .bool b]) ∧ ∃ m, w' = w.drewN m := by
  rcases hp with ⟨hk, rfl, rfl⟩ | ⟨i, hi, rfl⟩
  · exact get_no h hk
  · exact get_yes h hi

theorem PutsTo.ok {v was e : Int} {there : Bool} (hp : PutsTo n k v n' was there e) (ho : n.Ok) (hv : Num v) : n'.Ok := by
  rcases hp with ⟨hl, rfl, rfl, rfl, rfl⟩ | ⟨i, hi, rfl, rfl, rfl⟩ | ⟨h1, h2, h3, rfl, rfl, rfl, rfl⟩ | ⟨i, h1, h2, h3, h4, rfl, rfl, rfl, rfl⟩
  · exact ho
  · exact ho.set hi hv
  · exact ho
  · exact ho.add h1 h2 h4 h3 hv
theorem TakesTo.ok {was e : Int} (hp : TakesTo n k n' was e) (ho : n.Ok) : n'.Ok := by
  rcases hp with ⟨hk, rfl, rfl, rfl⟩ | ⟨i, hi, rfl, rfl⟩
  · exact ho
  · exact ho.del (List.getElem?_eq_some_iff.1 hi).1

/-! ### beside blocks -/
theorem Stand.ok (h : Has g n w wr L) : n.Ok := by obtain ⟨F, h1, _⟩ := h; exact h1.ok
theorem Stand.node (h : Has g n w wr L) : ∃ F, NodeI g n wr F := by obtain ⟨F, h1, _⟩ := h; exact ⟨F, h1⟩

theorem has_new {w w1 : World} (hb : Below w.heap.size w w1) : Calls Try.prog 24 #[] w1 fun e w' => ∃ g, e = .returned (.pointer (some ⟨g, 0, none⟩)) ∧ Hid (Has g Nd.new w w' []) :=
  (new_any w1).mono fun _ _ ⟨g, _, h1, h2, h3, h4⟩ => ⟨g, h1, Stand.start h2 (fun i hi => Nat.le_trans hb.size (h3 i hi)) (hb.trans (h4.mono hb.size))⟩
theorem Stand.put {v was e : Int} {there : Bool} (h : Has g n w wr L) (hp : PutsTo n k v n' was there e) (hv : Num v) (hI : 0 ≤ n.ins ∧ n.ins < 900000) :
    Calls Try.prog 35 #[.pointer (some ⟨g, 0, none⟩), .string k, .int .i64 v] wr fun x w' => x = .returned (.tuple #[.int .i64 was, .bool there, .int .i64 e]) ∧ Hid (Has g n' w w' L) := by
  obtain ⟨F, h1, h2⟩ := Stand.call (I' := NodeI g n') h
  exact (put_to hp h1 hv hI).mono fun x w' ⟨a, b⟩ => ⟨a, h2 w' b⟩
theorem Stand.take {was e : Int} (h : Has g n w wr L) (hp : TakesTo n k n' was e) (hI : 0 ≤ n.ins ∧ n.ins < 900000) :
    Calls Try.prog 37 #[.pointer (some ⟨g, 0, none⟩), .string k] wr fun x w' => x = .returned (.tuple #[.int .i64 was, .int .i64 e]) ∧ Hid (Has g n' w w' L) := by
  obtain ⟨F, h1, h2⟩ := Stand.call (I' := NodeI g n') h
  exact (take_to hp h1 hI).mono fun x w' ⟨a, b⟩ => ⟨a, h2 w' b⟩
theorem Stand.get {v : Int} {b : Bool} (h : Has g n w wr L) (hp : GetsTo n k v b) :
    Calls Try.prog 34 #[.pointer (some ⟨g, 0, none⟩), .string k] wr fun x w' => x = .returned (.tuple #[.int .i64 v, .bool b]) ∧ Hid (Has g n w w' L) ∧ ∃ m, w' = wr.drewN m := by
  obtain ⟨F, h1⟩ := h.node
  exact (get_to hp h1).mono fun x w' ⟨a, m, b⟩ => ⟨a, b ▸ Stand.drewN (nodeI_res g n) h m, m, b⟩
theorem Stand.counts (h : Has g n w wr L) : Calls Try.prog 43 #[.pointer (some ⟨g, 0, none⟩)] wr fun x w' => x = .returned (.tuple #[.int .i64 n.ins, .int .i64 n.spl]) ∧ Hid (Has g n w w' L) ∧ ∃ m, w' = wr.drewN m := by
  obtain ⟨F, h1⟩ := h.node
  exact (counts_any h1).mono fun x w' ⟨a, m, b⟩ => ⟨a, b ▸ Stand.drewN (nodeI_res g n) h m, m, b⟩
theorem Stand.order (h : Has g n w wr L) : Calls Try.prog 55 #[.pointer (some ⟨g, 0, none⟩)] wr fun x w' => x = .returned (.int .u64 n.word) ∧ w' = wr := by
  obtain ⟨F, h1⟩ := h.node
  exact order_any h1
theorem Stand.keys (h : Has g n w wr L) : Calls Try.prog 46 #[.pointer (some ⟨g, 0, none⟩)] wr fun x w' => ∃ b, x = .returned (.slice (some ⟨b, 0, none⟩) n.keys.length n.keys.length) ∧ Hid (Has g n w w' ((b, textsO n.keys) :: L)) := by
  obtain ⟨F, h1, h2, h3, h4, h5⟩ := h
  refine (keys_any h1).mono fun x w' ⟨b, e1, e2, e3, e4⟩ => ⟨b, e1, ?_⟩
  refine ⟨F, (nodeI_res g n).kept (S := fun _ => False) h1 (Turn.ofBelow _ e4) (fun _ _ h => h), h2, fun p hp hF => ?_, fun p hp => ?_, h5.trans (e4.mono h5.size)⟩
  · rcases List.mem_cons.1 hp with rfl | hp
    · have := (nodeI_res g n).lt h1 _ hF
      dsimp only at this
      omega
    · exact h3 p hp hF
  · rcases List.mem_cons.1 hp with rfl | hp
    · exact ⟨e3, Nat.le_trans h5.size e2⟩
    · exact ⟨(e4.block p.1 (lt_of (h4 p hp).1)).trans (h4 p hp).1, (h4 p hp).2⟩
theorem Stand.splitFew (h : Has g n w wr L) (hf : n.ks.length < 2) : Calls Try.prog 53 #[.pointer (some ⟨g, 0, none⟩)] wr fun x w' => x = .returned (.tuple #[.pointer none, .string ⟨#[]⟩, .int .i64 4]) ∧ w' = wr := by
  obtain ⟨F, h1⟩ := h.node
  exact split_few h1 hf
/-- Split: on with both -/
theorem Stand.splitOk (h : Has g n w wr L) (hf : 2 ≤ n.ks.length) (hI : 0 ≤ n.ins ∧ n.ins < 900000) (hS : 0 ≤ n.spl ∧ n.spl < 900000) :
    Calls Try.prog 53 #[.pointer (some ⟨g, 0, none⟩)] wr fun x w' => ∃ q p, Hid (n.ks[n.stay]? = some p) ∧ x = .returned (.tuple #[.pointer (some ⟨q, 0, none⟩), .string p.1, .int .i64 0]) ∧ Hid (Stand (Sep (NodeI g n.left) (NodeI q n.right)) w w' L) := by
  obtain ⟨F, h1, h2⟩ := Stand.call (I' := fun u G => ∃ q, Sep (NodeI g n.left) (NodeI q n.right) u G) h
  refine (split_ok h1 hf hI hS).mono fun x w' ⟨q, p, e1, e2, e3, e4⟩ => ⟨q, p, e1, e2, ?_⟩
  obtain ⟨F', k1, k2, k3⟩ := id e4
  obtain ⟨F2, h1', h2', h3', h4', h5'⟩ := h
  have hF2 : ∀ i, F i ↔ F2 i := fun i => (h1.2 i).trans (h1'.2 i).symm
  refine ⟨F', k1, fun i hi => ?_, fun p hp hF => ?_, fun p hp => ⟨(k2.block p.1 (lt_of (h4' p hp).1) (fun hh => h3' p hp ((hF2 _).1 hh))).trans (h4' p hp).1, (h4' p hp).2⟩, h5'.trans ((k2.mono (fun i hi => h2' i ((hF2 i).1 hi))).toBelow h5'.size)⟩
  · rcases k3 i hi with h | h
    · exact h2' i ((hF2 i).1 h)
    · exact Nat.le_trans h5'.size h
  · rcases k3 _ hF with h | h
    · exact h3' p hp ((hF2 _).1 h)
    · have := lt_of (h4' p hp).1; omega
theorem Stand.onlyLeft {I J : World → (Nat → Prop) → Prop} (h : Stand (Sep I J) w wr L) : Stand I w wr L := by
  obtain ⟨F, ⟨A, B, k1, k2, k3, k4, k5, k6⟩, h2, h3, h4, h5⟩ := h
  exact ⟨A, k1, fun i hi => h2 i (k4 i hi), fun p hp hA => h3 p hp (k4 _ hA), h4, h5⟩
theorem Stand.onlyRight {I J : World → (Nat → Prop) → Prop} (h : Stand (Sep I J) w wr L) : Stand J w wr L := by
  obtain ⟨F, ⟨A, B, k1, k2, k3, k4, k5, k6⟩, h2, h3, h4, h5⟩ := h
  exact ⟨B, k2, fun i hi => h2 i (k5 i hi), fun p hp hA => h3 p hp (k5 _ hA), h4, h5⟩

theorem Stand.texts {K : List ByteArray} {b : Nat} {I : World → (Nat → Prop) → Prop} (h : Stand I w wr L) (hb : (b, textsO K) ∈ L) (hK : K.length ≤ 1000) : SliceAt wr (.slice (some ⟨b, 0, none⟩) K.length K.length) 1 enS K := by
  have h1 := Stand.at h hb
  refine ⟨_, K.length, rfl, Nat.le_refl _, by unfold maxLen; omega, fun _ => ⟨b, 0, rfl, lt_of h1, fun i hi j u hu => ?_⟩⟩
  cases j with
  | zero =>
    simp [enS] at hu
    rw [cell_of h1, List.getElem?_toArray, ← hu, Nat.zero_add, Nat.mul_one, Nat.add_zero]
    exact scells_get (List.getElem?_eq_getElem hi)
  | succ j => simp [enS] at hu
end

theorem among_num (x n : Int) (_hn : 1 ≤ n) : (x.tmod n + n) % n = x % n := by
  have h3 : x.tmod n = x % n ∨ x.tmod n = x % n - n := by
    rw [Int.tmod_eq_emod]
    split
    · left; omega
    · right; omega
  rcases h3 with e | e
  · rw [e, Int.add_emod_right, Int.emod_emod]
  · rw [e, show x % n - n + n = x % n from by omega, Int.emod_emod]

set_option maxHeartbeats 400000 in
theorem among_any (x n : Int) (w : World) (hn : 1 ≤ n) (hn2 : n ≤ 1000) :
    Calls Try.prog 16 #[.int .i64 x, .int .i64 n] w fun e w' => e = .returned (.int .i64 (x % n)) ∧ w' = w := by
  have hl : -n < x.tmod n ∧ x.tmod n < n := ⟨Int.lt_tmod_of_pos x (by omega), Int.tmod_lt_of_pos x (by omega)⟩
  have h1 := hl.1
  have h2 := hl.2
  have HN : Hid ((x.tmod n + n) % n = x % n) := among_num x n hn
  have hz : (n == 0) = false := by rw [beq_eq_false_iff_ne]; omega
  clear hl
  go_enter Try.func16, Try.ntmps16
  go_wp2
  go_ret
  exact ⟨ret_int HN.out, rfl⟩

end Go.Proofs.Ytoknebbkpkcomaa
