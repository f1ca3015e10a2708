/- The walk of StreamPlays. -/
import Derived.Test.YthfmppghdlniiaaSStep
namespace Go.Proofs.Ythfmppghdlniiaa
open Go.ChangeShapes Go.WideShapes Go.ChangeAt Go.RowKit

namespace Plays

/-- behind j calls -/
def Inv (w wr : World) (n r j : Nat) : Prop := ∃ R, WF R (262144 * j) ∧ Stand (Sep (NetI n (R.map Wy.dr)) (RefI r R)) w wr []
theorem Inv.base {w wr : World} {n r j : Nat} (h : Inv w wr n r j) : Below w.heap.size w wr := by obtain ⟨R, _, h⟩ := h; exact Stand.base h
theorem Inv.step {w wr : World} {n r j : Nat} (h : Inv w wr n r j) (hj : j < 300) {x : ActV} (hx : x.Ok) :
    Calls Try.prog 10 #[.pointer (some ⟨n, 0, none⟩), .pointer (some ⟨r, 0, none⟩), .agg #[.int .i64 x.kind, .int .i64 x.conn, .int .i64 x.side, .int .i64 x.num, .string x.data]] wr fun e w' => e = .returned (.bool true) ∧ Inv w w' n r (j + 1) := by
  obtain ⟨R, hW, hS⟩ := h
  obtain ⟨F, hI, hgo⟩ : ∃ F, Sep (NetI n (R.map Wy.dr)) (RefI r R) wr F ∧ ∀ R' w', Goes (Sep (NetI n (R'.map Wy.dr)) (RefI r R')) wr w' F → Stand (Sep (NetI n (R'.map Wy.dr)) (RefI r R')) w w' [] := by
    obtain ⟨F, h1, h2, h3, h4, h5⟩ := hS
    refine ⟨F, h1, fun R' w' hg => ?_⟩
    obtain ⟨F', g1, g2, g3⟩ := hg
    refine Stand.start g1 (fun i hi => ?_) (h5.trans ((g2.mono h2).toBelow h5.size))
    rcases g3 i hi with h | h
    · exact h2 i h
    · exact Nat.le_trans h5.size h
  refine (step_true wr hI hW (by omega) hx).mono ?_
  rintro e w' ⟨rfl, R', hW', hg⟩
  exact ⟨rfl, R', by rw [show 262144 * (j + 1) = 262144 * j + 262144 from by omega]; exact hW', hgo R' w' hg⟩

set_option maxRecDepth 100000 in
set_option maxHeartbeats 1000000 in
theorem walk (v0 : Value) (L : List ActV) (w : World) (hA : SliceAt w v0 5 ActV.en L) (hZ : ∀ x ∈ L, x.Ok) :
    Calls Try.prog 3 #[v0] w fun e w' => e = .returned (.bool true) ∧ Below w.heap.size w w' := by
  obtain ⟨a, c, rfl, hl, hc, hx⟩ := hA
  have HX : Hid (L ≠ [] → ∃ b off, a = some ⟨b, off, none⟩ ∧ b < w.heap.size ∧ ∀ i, (h : i < L.length) → ∀ (j : Nat) (u : Value), (ActV.en L[i])[j]? = some u → w.cell? ⟨b, off + i * 5 + j, none⟩ = some u) := hx
  have HZ : Hid (∀ x ∈ L, x.Ok) := hZ
  unfold maxLen at hc
  clear hx hZ
  go_enter Try.func3, Try.ntmps3
  go_wp2_with fail
  refine (new_any w).mono ?_
  rintro e u1 ⟨rfl, H1, B1⟩
  go_wp2_with fail
  refine (rnew_any u1).mono ?_
  rintro e u2 ⟨rfl, H2, B2⟩
  have HI0 : Hid (Inv w u2 w.heap.size u1.heap.size 0) := by
    have l1 : w.heap.size < u1.heap.size := (netI_res _ _).lt H1 _ rfl
    refine ⟨[], ⟨by simp, by simp, rfl⟩, Stand.start (Sep.mk ((netI_res _ _).kept (S := fun _ => False) H1 (Turn.ofBelow _ B2) (fun _ _ h => h)) H2 (fun i hi hj => by omega)) (fun i hi => by omega) (B1.trans (B2.mono B1.size))⟩
  clear H1 B1 H2 B2
  obtain ⟨n, hn⟩ : ∃ n, w.heap.size = n := ⟨_, rfl⟩
  obtain ⟨r, hr⟩ : ∃ n, u1.heap.size = n := ⟨_, rfl⟩
  rw [hn, hr] at HI0
  simp only [hn, hr]
  clear hn hr
  go_wp2_with fail
  go_loopw [5] (fun i wr => ∃ j : Nat, j ≤ L.length ∧ j ≤ 300 ∧ i = .int .i64 j ∧ Inv w wr n r j) (fun i _ => L.length - (intOf i).toNat)
  case atStart => exact ⟨0, Nat.zero_le _, Nat.zero_le _, rfl, HI0.out⟩
  case round =>
    obtain ⟨j, hj, hj2, rfl, hst⟩ := hrel
    have HI : Hid (Inv w wr n r j) := hst
    clear hst HI0
    by_cases hlt : j < L.length
    · have hlI : (j : Int) < (L.length : Int) := by omega
      by_cases h2 : j < 300
      · have h2I : (j : Int) < 300 := by omega
        obtain ⟨b, off, rfl, hbl, hcs⟩ := HX.out (by intro e; rw [e] at hlt; simp at hlt)
        have hbel := HI.out.base
        have hm : L[j] ∈ L := List.getElem_mem hlt
        have hok := HZ.out _ hm
        obtain ⟨x, hxe⟩ : ∃ x, L[j] = x := ⟨_, rfl⟩
        have q := hcs j hlt
        rw [hxe] at q hok
        have p0 := (hbel.cell (p := ⟨b, off + j * 5, none⟩) hbl).trans (q 0 _ rfl)
        have p1 := (hbel.cell (p := ⟨b, off + j * 5 + 1, none⟩) hbl).trans (q 1 _ rfl)
        have p2 := (hbel.cell (p := ⟨b, off + j * 5 + 2, none⟩) hbl).trans (q 2 _ rfl)
        have p3 := (hbel.cell (p := ⟨b, off + j * 5 + 3, none⟩) hbl).trans (q 3 _ rfl)
        have p4 := (hbel.cell (p := ⟨b, off + j * 5 + 4, none⟩) hbl).trans (q 4 _ rfl)
        have HS : Hid (Calls Try.prog 10 #[.pointer (some ⟨n, 0, none⟩), .pointer (some ⟨r, 0, none⟩), .agg #[.int .i64 x.kind, .int .i64 x.conn, .int .i64 x.side, .int .i64 x.num, .string x.data]] wr fun e w' => e = .returned (.bool true) ∧ Inv w w' n r (j + 1)) := HI.out.step h2 hok
        clear q hbel hm hok hxe hcs HI
        go_wp2_with fail
        refine HS.out.mono ?_
        rintro e w3 ⟨rfl, hs3⟩
        have HS3 : Hid (Inv w w3 n r (j + 1)) := hs3
        clear hs3
        go_wp2_with fail
        go_roundw
        case rel => exact ⟨j + 1, by omega, by omega, by go_num, HS3.out⟩
        case measure => simp [intOf]; omega
      · have h2I : ¬ (j : Int) < 300 := by omega
        have HB : Hid (Below w.heap.size w wr) := HI.out.base
        go_wp2_with fail
        refine (works_any _).mono ?_
        rintro e w3 ⟨rfl, hb3⟩
        go_wp2_with fail
        go_ret
        exact ⟨rfl, HB.out.trans (hb3.mono HB.out.size)⟩
    · have hlI : ¬ (j : Int) < (L.length : Int) := by omega
      have HB : Hid (Below w.heap.size w wr) := HI.out.base
      go_wp2_with fail
      refine (works_any _).mono ?_
      rintro e w3 ⟨rfl, hb3⟩
      go_wp2_with fail
      go_ret
      exact ⟨rfl, HB.out.trans (hb3.mono HB.out.size)⟩

end Plays
end Go.Proofs.Ythfmppghdlniiaa
