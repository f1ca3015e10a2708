import Derived.Test.YtigegdelhpdlhaaGreatDoorBase
import Derived.Test.YtigegdelhpdlhaaGreatDoorProg
import Derived.Defers
import Derived.Recover
import Derived.Handy
import Derived.Lib.AppendStr
import Derived.Below
/- Layer 18's face: what gives up with an error, and what hands that error back. -/
namespace Go.Proofs.YtigegdelhpdlhaaGreatDoor
open Go.RowKit

/-- the panic of an error -/
abbrev mis (n : Int) : List PanicEntry := [{ v := .iface 108 (.int .i64 n), recovered := false }]

theorem refuse_no (n : Int) (w : World) : Calls Tryz.prog 55 #[.bool false, .int .i64 n] w fun r w' => r = .returned (.tuple #[]) ∧ w' = w := by
  go_enter Tryz.func55, Tryz.ntmps55
  go_wp2
  go_returns
  exact ⟨rfl, rfl⟩
theorem refuse_yes (n : Int) (w : World) : Calls Tryz.prog 55 #[.bool true, .int .i64 n] w fun r w' => r = .panicked (mis n) ∧ w' = w := by
  have hp : ∀ u : World, (Instr.panic (.iface 108 (.int .i64 n))).run Tryz.prog u = .halt (.panic (.iface 108 (.int .i64 n))) u := fun _ => rfl
  go_enter Tryz.func55, Tryz.ntmps55
  go_wp2
  exact ⟨rfl, rfl, rfl⟩
theorem must_no (w : World) : Calls Tryz.prog 60 #[.int .i64 0] w fun r w' => r = .returned (.tuple #[]) ∧ w' = w := by
  have HR : Hid (∀ u, Calls Tryz.prog 55 #[.bool false, .int .i64 0] u fun r w' => r = .returned (.tuple #[]) ∧ w' = u) := fun u => refuse_no 0 u
  go_enter Tryz.func60, Tryz.ntmps60
  go_wp2_with fail
  refine (HR.out _).mono ?_
  rintro e w2 ⟨rfl, rfl⟩
  go_wp2_with fail
  go_returns
  exact ⟨rfl, rfl⟩
theorem must_yes (n : Int) (hn : n ≠ 0) (w : World) : Calls Tryz.prog 60 #[.int .i64 n] w fun r w' => r = .panicked (mis n) ∧ w' = w := by
  have HR : Hid (∀ u, Calls Tryz.prog 55 #[.bool true, .int .i64 n] u fun r w' => r = .panicked (mis n) ∧ w' = u) := fun u => refuse_yes n u
  have h0 : (n == 0) = false := by rw [beq_eq_false_iff_ne]; exact hn
  have h1 : (n != 0) = true := by simp [hn]
  go_enter Tryz.func60, Tryz.ntmps60
  go_wp2_with fail
  refine (HR.out _).mono ?_
  rintro e w2 ⟨rfl, rfl⟩
  exact ⟨rfl, rfl, rfl⟩

theorem assert_mis (n : Int) (w : World) : (Instr.typeAssert (.iface 108 (.int .i64 n)) 20 108 true).run Tryz.prog w = .ok (.tuple #[.int .i64 n, .bool true]) w := by
  simp [Instr.typeAssert, Sem.run_bind, run_underlying Tryz.underlying108]
theorem done_frame (p : Addr) : (#[Value.pointer (some p)] ++ Array.replicate (Tryz.f62.ntmps - #[Value.pointer (some p)].size) undef) = #[.pointer (some p), undef, undef, undef, undef, undef, undef, undef, undef, undef, undef] := by
  rw [Tryz.ntmps62]
  rfl
set_option maxRecDepth 100000 in
theorem catch_idle (p : Addr) (w : World) : CallsD Tryz.prog 62 #[.pointer (some p)] .returning w fun e u' w' => e = .returned (.tuple #[]) ∧ u' = .returning ∧ w' = w := by
  refine callsD_of_wpS Tryz.func62 rfl fun c₀ cs hu => ?_
  rw [done_frame]
  apply wpS_seq
  apply wpS_region
  simp [wpOpsS, go_sem, recoverD, hu, Exit.thenS]
  refine wpS_of_wp ?_
  go_wp2
  cases c₀
  simp_all [bodyPostS, results, Tryz.results62]
set_option maxRecDepth 100000 in
theorem catch_panic (p : Addr) (x n : Int) (older : List PanicEntry) (w : World) (hc : w.cell? p = some (.int .i64 x)) (hz : w.frozen? p = false) :
    CallsD Tryz.prog 62 #[.pointer (some p)] (.panicking ({ v := .iface 108 (.int .i64 n), recovered := false } :: older)) w fun e u' w' =>
      e = .returned (.tuple #[]) ∧ u' = .panicking ({ v := .iface 108 (.int .i64 n), recovered := true } :: older) ∧ w' = w.setCell p (.int .i64 n) := by
  refine callsD_of_wpS Tryz.func62 rfl fun c₀ cs hu => ?_
  rw [done_frame]
  apply wpS_seq
  apply wpS_region
  simp [wpOpsS, go_sem, recoverD, hu, Exit.thenS]
  refine wpS_of_wp ?_
  have ha := assert_mis n
  go_wp2
  cases c₀
  simp_all [bodyPostS, results, Tryz.results62]
end Go.Proofs.YtigegdelhpdlhaaGreatDoor

/- Bytes of a string behind a slice of bytes: what it comes to, and where the new slice lies. Nothing here speaks of a program. -/
namespace Go.Proofs.YtigegdelhpdlhaaGreatDoor
open Go.RowKit Go.Lib

theorem run_append_str_at {P : Program} (w : World) (t u ty e : TypeId) (i : TypeInfo) (ht : P.underlying t = some (.slice e)) (hu : P.underlying u = some .string) (hi : P.info? e = some i) (hz : i.zero = some (.int .u8 0))
    (hsize : i.size = 1) (hby : i.bytes = 1) (v : Value) (n : Nat) (xs : List Value) (hown : w.ownsRow 0 e 1 v n xs) (s : ByteArray) (h63 : n + s.size ≤ maxLen) (hbytes : n + s.size ≤ 140737488355328) :
    ∃ a c w', (Builtin.append_ #[t, u] ty #[v, .string s]).run P w = .ok (.slice a (n + s.size) c) w' ∧ w'.ownsRow 0 e 1 (.slice a (n + s.size) c) (n + s.size) (xs ++ strCells s) ∧ w.grownBy w' v.ownBlock ∧
      ∀ b, (Value.slice a (n + s.size) c).ownBlock = some b → v.ownBlock = some b ∨ w.heap.size ≤ b := by
  have key : ∃ v' w', (Builtin.append_ #[t, u] ty #[v, .string s]).run P w = .ok v' w' ∧ w'.ownsRow 0 e 1 v' (n + s.size) (xs ++ strCells s) ∧ w.grownBy w' v.ownBlock ∧ ∀ b, v'.ownBlock = some b → v.ownBlock = some b ∨ w.heap.size ≤ b := by
    have hxl : xs.length = n := by simpa using hown.1
    rcases hown.2 with ⟨rfl, rfl⟩ | ⟨g, cap, cur, rfl, hbg, hg, hnc, hcm, hcs, htake⟩
    · have hx : xs = [] := List.eq_nil_of_length_eq_zero hxl
      subst hx
      obtain ⟨v', w', hr, h2, h3, _⟩ := run_append_own_string (P := P) w w.heap.size t u ty e i ht hu hi hz hsize hby (.slice none 0 0) 0 [] (World.ownsRow_nil w _ e 1) s h63 hbytes (Nat.le_refl _)
      refine ⟨v', w', hr, ?_, h3, fun b hb => Or.inr ?_⟩
      · obtain ⟨a1, a2⟩ := h2
        refine ⟨a1, ?_⟩
        rcases a2 with a2 | ⟨g, cap, cur, a3, _, a4⟩
        · exact Or.inl a2
        · exact Or.inr ⟨g, cap, cur, a3, Nat.zero_le _, a4⟩
      · rcases h2.2 with ⟨rfl, _⟩ | ⟨g, cap, cur, rfl, a, _⟩
        · cases hb
        · cases hb; exact a
    · obtain ⟨v', w', hr, h2, h3, _⟩ := run_append_own_string (P := P) w 0 t u ty e i ht hu hi hz hsize hby _ n xs hown s h63 hbytes (Nat.zero_le _)
      refine ⟨v', w', hr, h2, h3, fun b hb => ?_⟩
      by_cases hroom : n + s.size ≤ cap
      · have hcs' : cur.size = cap := by simpa using hcs
        have hr' := run_append_room_string (P := P) w t u ty e i ht hu hi hsize g n cap cur hg s hroom (by omega)
        rw [hr'] at hr
        cases hr
        exact Or.inl hb
      · have holds : ∀ j u, xs[j]? = some u → w.cell? ((⟨g, 0, none⟩ : Addr).add j) = some u := hown.cells (g := g) rfl
        have hsmall : n + s.size ≤ 9223372036854775807 := by simp only [maxLen] at h63; omega
        have hr' := run_append_grow_string (P := P) w t u ty e i (.int .u8 0) ht hu hi hz ⟨g, 0, none⟩ n cap xs (by rw [hsize]; simpa using hxl) holds s (by omega) (by omega) (by rw [hby]; exact growslice_fits (by omega) (by omega))
        rw [hr'] at hr
        cases hr
        cases hb
        exact Or.inr (Nat.le_refl _)
  obtain ⟨v', w', hr, h2, h3, h4⟩ := key
  have hs : ∃ a c, v' = .slice a (n + s.size) c := by
    rcases h2.2 with ⟨e, hn⟩ | ⟨b, cap, cur, e, _⟩
    · exact ⟨none, 0, by rw [e, hn]⟩
    · exact ⟨_, _, e⟩
  obtain ⟨a, c, rfl⟩ := hs
  exact ⟨a, c, w', hr, h2, h3, h4⟩

/-- At the operation, for the walk. -/
theorem wpList_append_str {P : Program} (w : World) {ops : Array Oper} {rest : List Oper} {o : Oper} {a : Act} {Q : Exit → Act → World → Prop} (hgd : o.guard = none) (sl x : Operand) (t u : TypeId)
    (ho : o.op = .call { callee := .builtin .append, args := #[sl, x], argTypes := #[t, u] })
    (e : TypeId) (i : TypeInfo) (ht : P.underlying t = some (.slice e)) (hu : P.underlying u = some .string) (hi : P.info? e = some i) (hz : i.zero = some (.int .u8 0))
    (hsize : i.size = 1) (hby : i.bytes = 1)
    (v : Value) (n : Nat) (xs : List Value) (hs : a.eval sl = v) (hown : w.ownsRow 0 e 1 v n xs) (s : ByteArray) (hx : a.eval x = .string s)
    (h63 : n + s.size ≤ maxLen) (hbytes : n + s.size ≤ 140737488355328)
    (h : ∀ a' c' w', w'.ownsRow 0 e 1 (.slice a' (n + s.size) c') (n + s.size) (xs ++ strCells s) → w.grownBy w' v.ownBlock →
      (∀ b, (Value.slice a' (n + s.size) c').ownBlock = some b → v.ownBlock = some b ∨ w.heap.size ≤ b) → wpList P ops Q rest (a.put o.dst (.slice a' (n + s.size) c')) w') : wpList P ops Q (o :: rest) a w := by
  refine wpList_plain hgd fun K hK => ?_
  obtain ⟨a', c', w', hr, h2, h3, h4⟩ := run_append_str_at (P := P) w t u o.type e i ht hu hi hz hsize hby v n xs hown s h63 hbytes
  unfold Oper.wp execOp
  simp only [ho, resolve, invoke, builtin, Sem.run_bind, Sem.run_pure, Result.andThen_ok, List.map_toArray, List.map_cons, List.map_nil, hs, hx, hr]
  exact hK _ _ (h a' c' w' h2 h3 h4)

end Go.Proofs.YtigegdelhpdlhaaGreatDoor
