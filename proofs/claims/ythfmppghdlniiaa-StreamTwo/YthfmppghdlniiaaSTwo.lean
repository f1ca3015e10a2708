/- The walk of StreamTwo. -/
import Derived.Test.YthfmppghdlniiaaSStep
namespace Go.Proofs.Ythfmppghdlniiaa
open Go.ChangeShapes Go.WideShapes Go.ChangeAt Go.RowKit

namespace Two

def Pair (n r : Nat) (R : List Wy) : World → (Nat → Prop) → Prop := Sep (NetI n (R.map Wy.dr)) (RefI r R)
theorem pair_res (n r : Nat) (R : List Wy) : Res (Pair n r R) := Sep.res (netI_res _ _) (refI_res _ _)

/-- behind j calls: two pairs, apart from one another -/
def Inv (w wr : World) (a b c d j : Nat) : Prop := ∃ R S, WF R (262144 * j) ∧ WF S (262144 * j) ∧ Stand (Sep (Pair a c R) (Pair b d S)) w wr []
theorem Inv.base {w wr : World} {a b c d j : Nat} (h : Inv w wr a b c d j) : Below w.heap.size w wr := by obtain ⟨R, S, _, _, h⟩ := h; exact Stand.base h
theorem Inv.swap {w wr : World} {a b c d j : Nat} (h : Inv w wr a b c d j) : Inv w wr b a d c j := by
  obtain ⟨R, S, h1, h2, F, h3, h4⟩ := h
  exact ⟨S, R, h2, h1, F, h3.swap, h4⟩
theorem Inv.first {w wr : World} {a b c d j : Nat} (h : Inv w wr a b c d j) (hj : j < 300) {x : ActV} (hx : x.Ok) :
    Calls Try.prog 10 #[.pointer (some ⟨a, 0, none⟩), .pointer (some ⟨c, 0, none⟩), .agg #[.int .i64 x.kind, .int .i64 x.conn, .int .i64 x.side, .int .i64 x.num, .string x.data]] wr fun e w' => e = .returned (.bool true) ∧ Inv w w' a b c d (j + 1) := by
  obtain ⟨R, S, hW, hW2, hS⟩ := h
  obtain ⟨A, hI, hgo⟩ : ∃ A, Pair a c R wr A ∧ ∀ R' w', Goes (Pair a c R') wr w' A → Stand (Sep (Pair a c R') (Pair b d S)) w w' [] := by
    obtain ⟨F, h1, h2, h3, h4, h5⟩ := hS
    obtain ⟨A, A2, a1, a2, a3, a4, a5, a6⟩ := h1
    refine ⟨A, a1, fun R' w' hg => ?_⟩
    obtain ⟨A', g1, g2, g3⟩ := hg
    refine Stand.start (Sep.mk g1 ((pair_res _ _ _).kept a2 g2 (fun i hi hA => a3 i hA hi)) (fun i hi hi2 => ?_)) (fun i hi => ?_) (h5.trans ((g2.mono (fun i hi => h2 i (a4 i hi))).toBelow h5.size))
    · rcases g3 i hi with h | h
      · exact a3 i h hi2
      · have := (pair_res _ _ _).lt a2 i hi2; omega
    · rcases hi with hi | hi
      · rcases g3 i hi with h | h
        · exact h2 i (a4 i h)
        · exact Nat.le_trans h5.size h
      · exact h2 i (a5 i hi)
  refine (step_true wr hI hW (by omega) hx).mono ?_
  rintro e w' ⟨rfl, R', hW', hg⟩
  have e1 : 262144 * (j + 1) = 262144 * j + 262144 := by omega
  exact ⟨rfl, R', S, by rw [e1]; exact hW', by rw [e1]; exact hW2.more, hgo R' w' hg⟩
theorem Inv.second {w wr : World} {a b c d j : Nat} (h : Inv w wr a b c d j) (hj : j < 300) {x : ActV} (hx : x.Ok) :
    Calls Try.prog 10 #[.pointer (some ⟨b, 0, none⟩), .pointer (some ⟨d, 0, none⟩), .agg #[.int .i64 x.kind, .int .i64 x.conn, .int .i64 x.side, .int .i64 x.num, .string x.data]] wr fun e w' => e = .returned (.bool true) ∧ Inv w w' a b c d (j + 1) := by
  refine (h.swap.first hj hx).mono ?_
  rintro e w' ⟨rfl, hg⟩
  exact ⟨rfl, hg.swap⟩

theorem inv_new {w u1 u2 u3 u4 : World} (H1 : NetI w.heap.size [] u1 (fun i => i = w.heap.size)) (B1 : Below w.heap.size w u1) (H2 : NetI u1.heap.size [] u2 (fun i => i = u1.heap.size)) (B2 : Below u1.heap.size u1 u2)
    (H3 : RefI u2.heap.size [] u3 (fun i => i = u2.heap.size)) (B3 : Below u2.heap.size u2 u3) (H4 : RefI u3.heap.size [] u4 (fun i => i = u3.heap.size)) (B4 : Below u3.heap.size u3 u4) :
    Inv w u4 w.heap.size u1.heap.size u2.heap.size u3.heap.size 0 := by
  have l1 : w.heap.size < u1.heap.size := (netI_res _ _).lt H1 _ rfl
  have l2 : u1.heap.size < u2.heap.size := (netI_res _ _).lt H2 _ rfl
  have l3 : u2.heap.size < u3.heap.size := (refI_res _ _).lt H3 _ rfl
  have k1 : NetI w.heap.size [] u4 (fun i => i = w.heap.size) := (netI_res _ _).kept (S := fun _ => False) H1 (((Turn.ofBelow _ B2).trans (Turn.ofBelow _ B3)).trans (Turn.ofBelow _ B4)) (fun _ _ h => h)
  have k2 : NetI u1.heap.size [] u4 (fun i => i = u1.heap.size) := (netI_res _ _).kept (S := fun _ => False) H2 ((Turn.ofBelow _ B3).trans (Turn.ofBelow _ B4)) (fun _ _ h => h)
  have k3 : RefI u2.heap.size [] u4 (fun i => i = u2.heap.size) := (refI_res _ _).kept (S := fun _ => False) H3 (Turn.ofBelow _ B4) (fun _ _ h => h)
  have hw : ∀ B, WF [] B := fun B => ⟨by simp, by simp, rfl⟩
  refine ⟨[], [], hw _, hw _, Stand.start (Sep.mk (Sep.mk k1 k3 (fun i hi hj => by omega)) (Sep.mk k2 H4 (fun i hi hj => by omega)) (fun i hi hj => by omega)) (fun i hi => by omega) (B1.trans ((B2.trans ((B3.trans (B4.mono B3.size)).mono B2.size)).mono B1.size))⟩

set_option maxRecDepth 100000 in
set_option maxHeartbeats 1000000 in
theorem walk (v0 : Value) (L : List ActV) (w : World) (hA : SliceAt w v0 5 ActV.en L) (hZ : ∀ x ∈ L, x.Ok) :
    Calls Try.prog 4 #[v0] w fun e w' => e = .returned (.bool true) ∧ Below w.heap.size w w' := by
  obtain ⟨a, c, rfl, hl, hc, hx⟩ := hA
  have HX : Hid (L ≠ [] → ∃ b off, a = some ⟨b, off, none⟩ ∧ b < w.heap.size ∧ ∀ i, (h : i < L.length) → ∀ (j : Nat) (u : Value), (ActV.en L[i])[j]? = some u → w.cell? ⟨b, off + i * 5 + j, none⟩ = some u) := hx
  have HZ : Hid (∀ x ∈ L, x.Ok) := hZ
  unfold maxLen at hc
  clear hx hZ
  go_enter Try.func4, Try.ntmps4
  go_wp2_with fail
  refine (new_any w).mono ?_
  rintro e u1 ⟨rfl, h1, b1⟩
  have H1 : Hid (NetI w.heap.size [] u1 (fun i => i = w.heap.size) ∧ Below w.heap.size w u1) := ⟨h1, b1⟩
  clear h1 b1
  go_wp2_with fail
  refine (new_any u1).mono ?_
  rintro e u2 ⟨rfl, h2, b2⟩
  have H2 : Hid (NetI u1.heap.size [] u2 (fun i => i = u1.heap.size) ∧ Below u1.heap.size u1 u2) := ⟨h2, b2⟩
  clear h2 b2
  go_wp2_with fail
  refine (rnew_any u2).mono ?_
  rintro e u3 ⟨rfl, h3, b3⟩
  have H3 : Hid (RefI u2.heap.size [] u3 (fun i => i = u2.heap.size) ∧ Below u2.heap.size u2 u3) := ⟨h3, b3⟩
  clear h3 b3
  go_wp2_with fail
  refine (rnew_any u3).mono ?_
  rintro e u4 ⟨rfl, h4, b4⟩
  have HI0 : Hid (Inv w u4 w.heap.size u1.heap.size u2.heap.size u3.heap.size 0) := inv_new H1.out.1 H1.out.2 H2.out.1 H2.out.2 H3.out.1 H3.out.2 h4 b4
  clear h4 b4 H1 H2 H3
  obtain ⟨pa, hpa⟩ : ∃ n, w.heap.size = n := ⟨_, rfl⟩
  obtain ⟨pb, hpb⟩ : ∃ n, u1.heap.size = n := ⟨_, rfl⟩
  obtain ⟨pc, hpc⟩ : ∃ n, u2.heap.size = n := ⟨_, rfl⟩
  obtain ⟨pd, hpd⟩ : ∃ n, u3.heap.size = n := ⟨_, rfl⟩
  rw [hpa, hpb, hpc, hpd] at HI0
  simp only [hpa, hpb, hpc, hpd]
  clear hpa hpb hpc hpd
  go_wp2_with fail
  go_loopw [7] (fun i wr => ∃ j : Nat, j ≤ L.length ∧ j ≤ 300 ∧ i = .int .i64 j ∧ Inv w wr pa pb pc pd j) (fun i _ => L.length - (intOf i).toNat)
  case atStart => exact ⟨0, Nat.zero_le _, Nat.zero_le _, rfl, HI0.out⟩
  case round =>
    obtain ⟨j, hj, hj2, rfl, hst⟩ := hrel
    have HI : Hid (Inv w wr pa pb pc pd j) := hst
    clear hst HI0
    by_cases hlt : j < L.length
    · have hlI : (j : Int) < (L.length : Int) := by omega
      by_cases h2 : j < 300
      · have h2I : (j : Int) < 300 := by omega
        obtain ⟨b, off, rfl, hbl, hcs⟩ := HX.out (by intro e; rw [e] at hlt; simp at hlt)
        have hbel := HI.out.base
        have hm : L[j] ∈ L := List.getElem_mem hlt
        have hok := HZ.out _ hm
        obtain ⟨x, hxe⟩ : ∃ x, L[j] = x := ⟨_, rfl⟩
        have q := hcs j hlt
        rw [hxe] at q hok
        have p0 := (hbel.cell (p := ⟨b, off + j * 5, none⟩) hbl).trans (q 0 _ rfl)
        have p1 := (hbel.cell (p := ⟨b, off + j * 5 + 1, none⟩) hbl).trans (q 1 _ rfl)
        have p2 := (hbel.cell (p := ⟨b, off + j * 5 + 2, none⟩) hbl).trans (q 2 _ rfl)
        have p3 := (hbel.cell (p := ⟨b, off + j * 5 + 3, none⟩) hbl).trans (q 3 _ rfl)
        have p4 := (hbel.cell (p := ⟨b, off + j * 5 + 4, none⟩) hbl).trans (q 4 _ rfl)
        have HS1 : Hid (Calls Try.prog 10 #[.pointer (some ⟨pa, 0, none⟩), .pointer (some ⟨pc, 0, none⟩), .agg #[.int .i64 x.kind, .int .i64 x.conn, .int .i64 x.side, .int .i64 x.num, .string x.data]] wr fun e w' => e = .returned (.bool true) ∧ Inv w w' pa pb pc pd (j + 1)) := HI.out.first h2 hok
        have HS2 : Hid (Calls Try.prog 10 #[.pointer (some ⟨pb, 0, none⟩), .pointer (some ⟨pd, 0, none⟩), .agg #[.int .i64 x.kind, .int .i64 x.conn, .int .i64 x.side, .int .i64 x.num, .string x.data]] wr fun e w' => e = .returned (.bool true) ∧ Inv w w' pa pb pc pd (j + 1)) := HI.out.second h2 hok
        clear q hbel hm hok hxe hcs HI
        by_cases ho : j % 2 = 1
        · have hoI : (j : Int) % 2 = 1 := by omega
          have hoT : (j : Int).tmod 2 = 1 := by rw [Int.tmod_eq_emod_of_nonneg (by omega)]; exact hoI
          clear HS1
          go_wp2_with fail
          refine HS2.out.mono ?_
          rintro e w3 ⟨rfl, hs3⟩
          have HS3 : Hid (Inv w w3 pa pb pc pd (j + 1)) := hs3
          clear hs3 HS2
          go_wp2_with fail
          go_roundw
          case rel => exact ⟨j + 1, by omega, by omega, by go_num, HS3.out⟩
          case measure => simp [intOf]; omega
        · have hoI : (j : Int) % 2 = 0 := by omega
          have hoT : (j : Int).tmod 2 = 0 := by rw [Int.tmod_eq_emod_of_nonneg (by omega)]; exact hoI
          clear HS2
          go_wp2_with fail
          refine HS1.out.mono ?_
          rintro e w3 ⟨rfl, hs3⟩
          have HS3 : Hid (Inv w w3 pa pb pc pd (j + 1)) := hs3
          clear hs3 HS1
          go_wp2_with fail
          go_roundw
          case rel => exact ⟨j + 1, by omega, by omega, by go_num, HS3.out⟩
          case measure => simp [intOf]; omega
      · have h2I : ¬ (j : Int) < 300 := by omega
        have HB : Hid (Below w.heap.size w wr) := HI.out.base
        go_wp2_with fail
        refine (works_any _).mono ?_
        rintro e w3 ⟨rfl, hb3⟩
        go_wp2_with fail
        go_ret
        exact ⟨rfl, HB.out.trans (hb3.mono HB.out.size)⟩
    · have hlI : ¬ (j : Int) < (L.length : Int) := by omega
      have HB : Hid (Below w.heap.size w wr) := HI.out.base
      go_wp2_with fail
      refine (works_any _).mono ?_
      rintro e w3 ⟨rfl, hb3⟩
      go_wp2_with fail
      go_ret
      exact ⟨rfl, HB.out.trans (hb3.mono HB.out.size)⟩

end Two
end Go.Proofs.Ythfmppghdlniiaa
