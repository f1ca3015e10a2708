/- A clock, plainly: the workers' epochs, the global one, the snapshot epoch, and the things that wait. Nothing here speaks of a program. -/
import Derived.Test.YtonblbopfbjiaaaBase
namespace Go.Proofs.Ytonblbopfbjiaaa

structure Ck where
  ws : List Int
  every : Int
  now : Int
  snap : Int
  th : List (Int × Int)

/-- what is so of every clock -/
structure Ck.Ok (c : Ck) : Prop where
  some : 0 < c.ws.length
  few : c.ws.length ≤ 16
  every1 : 1 ≤ c.every
  every2 : c.every ≤ 4096
  now1 : 1 ≤ c.now
  now2 : c.now ≤ 2147483648
  snap1 : 0 ≤ c.snap
  snap2 : c.snap < c.now
  work : ∀ e ∈ c.ws, e = 0 ∨ (c.now - 1 ≤ e ∧ e ≤ c.now ∧ c.snap < e)
  room : c.th.length ≤ 4096
  whens : ∀ p ∈ c.th, 1 ≤ p.2 ∧ p.2 ≤ c.now
  sorted : c.th.Pairwise (fun p q => p.2 ≤ q.2)

def newOk (n every epoch : Int) : Bool := decide (1 ≤ n) && decide (n ≤ 16) && (decide (1 ≤ every) && decide (every ≤ 4096)) && (decide (1 ≤ epoch) && decide (epoch ≤ 2147483648))
def Ck.new (n every epoch : Int) : Ck := ⟨List.replicate n.toNat 0, every, epoch, epoch - 1, []⟩
def Ck.enter (c : Ck) (k : Nat) : Ck := { c with ws := c.ws.set k c.now }
def Ck.leave (c : Ck) (k : Nat) : Ck := { c with ws := c.ws.set k 0 }
/-- a worker works that entered ahead of the global epoch -/
def lates (now : Int) (L : List Int) : Bool := L.any fun e => e != 0 && decide (e < now)
def Ck.late (c : Ck) : Bool := lates c.now c.ws
def Ck.rise (c : Ck) : Ck := { c with now := c.now + 1, snap := if (c.now + 1) % c.every = 0 then max c.snap (c.now - 1) else c.snap }
def Ck.retire (c : Ck) (x : Int) : Ck := { c with th := c.th ++ [(x, c.now)] }
def freed (snap : Int) (L : List (Int × Int)) : List (Int × Int) := L.takeWhile fun p => decide (p.2 ≤ snap)
def Ck.free (c : Ck) : Ck := { c with th := c.th.drop (freed c.snap c.th).length }

theorem newOk_iff {n every epoch : Int} : newOk n every epoch = true ↔ 1 ≤ n ∧ n ≤ 16 ∧ 1 ≤ every ∧ every ≤ 4096 ∧ 1 ≤ epoch ∧ epoch ≤ 2147483648 := by
  simp [newOk, and_assoc]

theorem Ck.new_ok {n every epoch : Int} (h : newOk n every epoch = true) : (Ck.new n every epoch).Ok := by
  obtain ⟨h1, h2, h3, h4, h5, h6⟩ := newOk_iff.1 h
  refine ⟨?_, ?_, h3, h4, h5, h6, ?_, ?_, fun e he => Or.inl (List.eq_of_mem_replicate he), Nat.zero_le _, fun p hp => (by cases hp), List.Pairwise.nil⟩
  · show 0 < (List.replicate n.toNat (0 : Int)).length
    rw [List.length_replicate]; omega
  · show (List.replicate n.toNat (0 : Int)).length ≤ 16
    rw [List.length_replicate]; omega
  · show 0 ≤ epoch - 1
    omega
  · show epoch - 1 < epoch
    omega

theorem mem_set_or {L : List Int} {k : Nat} {x e : Int} (h : e ∈ L.set k x) : e = x ∨ e ∈ L := by
  rcases List.mem_or_eq_of_mem_set h with h | h
  · exact Or.inr h
  · exact Or.inl h

theorem Ck.enter_ok {c : Ck} (h : c.Ok) (k : Nat) : (c.enter k).Ok := by
  obtain ⟨h1, h2, h3, h4, h5, h6, h7, h8, h9, h10, h11, h12⟩ := h
  refine ⟨by simpa [Ck.enter] using h1, by simpa [Ck.enter] using h2, h3, h4, h5, h6, h7, h8, fun e he => ?_, h10, h11, h12⟩
  rcases mem_set_or he with rfl | he
  · right
    show c.now - 1 ≤ c.now ∧ c.now ≤ c.now ∧ c.snap < c.now
    omega
  · exact h9 e he

theorem Ck.leave_ok {c : Ck} (h : c.Ok) (k : Nat) : (c.leave k).Ok := by
  obtain ⟨h1, h2, h3, h4, h5, h6, h7, h8, h9, h10, h11, h12⟩ := h
  refine ⟨by simpa [Ck.leave] using h1, by simpa [Ck.leave] using h2, h3, h4, h5, h6, h7, h8, fun e he => ?_, h10, h11, h12⟩
  rcases mem_set_or he with rfl | he
  · exact Or.inl rfl
  · exact h9 e he

theorem lates_iff {now : Int} {L : List Int} : lates now L = false ↔ ∀ e ∈ L, e = 0 ∨ now ≤ e := by
  unfold lates
  rw [List.any_eq_false]
  constructor
  · intro h e he
    have := h e he
    by_cases h0 : e = 0
    · exact Or.inl h0
    · right
      simp [h0] at this
      exact this
  · intro h e he
    rcases h e he with rfl | h
    · simp
    · simp [h]

theorem lates_take_next {now : Int} {L : List Int} {k : Nat} (h : k < L.length) : lates now (L.take (k + 1)) = (lates now (L.take k) || (L[k] != 0 && decide (L[k] < now))) := by
  unfold lates
  rw [List.take_succ_eq_append_getElem h, List.any_append, List.any_cons, List.any_nil, Bool.or_false]

theorem Ck.rise_snap (c : Ck) (h : c.Ok) : c.snap ≤ c.rise.snap ∧ c.rise.snap ≤ c.now - 1 := by
  have := h.snap2
  show c.snap ≤ (if (c.now + 1) % c.every = 0 then max c.snap (c.now - 1) else c.snap) ∧ (if (c.now + 1) % c.every = 0 then max c.snap (c.now - 1) else c.snap) ≤ c.now - 1
  split <;> omega

theorem Ck.rise_ok {c : Ck} (h : c.Ok) (hn : c.now ≠ 2147483648) (hl : c.late = false) : c.rise.Ok := by
  obtain ⟨s1, s2⟩ := c.rise_snap h
  obtain ⟨h1, h2, h3, h4, h5, h6, h7, h8, h9, h10, h11, h12⟩ := h
  have hl := lates_iff.1 hl
  refine ⟨h1, h2, h3, h4, ?_, ?_, by omega, ?_, fun e he => ?_, h10, fun p hp => ?_, h12⟩
  · show 1 ≤ c.now + 1
    omega
  · show c.now + 1 ≤ 2147483648
    omega
  · show c.rise.snap < c.now + 1
    omega
  · rcases hl e he with h | h
    · exact Or.inl h
    · rcases h9 e he with k | ⟨k1, k2, k3⟩
      · exact Or.inl k
      · right
        show c.now + 1 - 1 ≤ e ∧ e ≤ c.now + 1 ∧ c.rise.snap < e
        omega
  · obtain ⟨k1, k2⟩ := h11 p hp
    show 1 ≤ p.2 ∧ p.2 ≤ c.now + 1
    omega

theorem Ck.retire_ok {c : Ck} (h : c.Ok) (hr : c.th.length < 4096) (x : Int) : (c.retire x).Ok := by
  obtain ⟨h1, h2, h3, h4, h5, h6, h7, h8, h9, h10, h11, h12⟩ := h
  refine ⟨h1, h2, h3, h4, h5, h6, h7, h8, h9, ?_, fun p hp => ?_, ?_⟩
  · show (c.th ++ [(x, c.now)]).length ≤ 4096
    rw [List.length_append, List.length_singleton]; omega
  · rcases List.mem_append.1 hp with hp | hp
    · exact h11 p hp
    · obtain rfl : p = (x, c.now) := by simpa using hp
      exact ⟨h5, Int.le_refl _⟩
  · show (c.th ++ [(x, c.now)]).Pairwise _
    rw [List.pairwise_append]
    refine ⟨h12, by simp, fun p hp q hq => ?_⟩
    obtain rfl : q = (x, c.now) := by simpa using hq
    exact (h11 p hp).2

theorem Ck.free_ok {c : Ck} (h : c.Ok) : c.free.Ok := by
  obtain ⟨h1, h2, h3, h4, h5, h6, h7, h8, h9, h10, h11, h12⟩ := h
  refine ⟨h1, h2, h3, h4, h5, h6, h7, h8, h9, ?_, fun p hp => h11 p (List.mem_of_mem_drop hp), h12.sublist (List.drop_sublist _ _)⟩
  show (c.th.drop _).length ≤ 4096
  rw [List.length_drop]; omega

end Go.Proofs.Ytonblbopfbjiaaa
