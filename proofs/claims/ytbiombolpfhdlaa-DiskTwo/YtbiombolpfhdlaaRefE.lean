/- The reference disk: put, drop. -/
import Derived.Test.YtbiombolpfhdlaaRefD
namespace Go.Proofs.Ytbiombolpfhdlaa
open Go.RowKit Go.Maps

section
variable {r : Nat} {v : Value} {s : Dk.Dsk}

theorem rput_any (p : List UInt8 × Dk.Fil) (w : World) (h : RefG w r v s) (hI : Inv s) (hmore : Dk.getL p.1 s.fs = none → s.fs.length < 64) :
    Calls Try.prog 44 #[.pointer (some ⟨r, 0, none⟩), .agg #[.string (bs p.1), .string (bs p.2.data), .int .i64 (p.2.safe : Int)]] w fun e w' => e = .returned (.tuple #[]) ∧ RGoes w w' r v { s with fs := Dk.putL p.1 p.2 s.fs } := by
  obtain ⟨t, ht, hb, hnb⟩ := place_of p.1 s.fs
  by_cases hk : ∃ hlt : t < s.fs.length, (s.fs[t]).1 = p.1
  · obtain ⟨hlt, hk⟩ := hk
    exact rput_old p w h hI hlt hb hk
  · have hne : (h : t < s.fs.length) → (s.fs[t]).1 ≠ p.1 := fun hlt e => hk ⟨hlt, e⟩
    have hput := put_new p.2 hI.rise ht hb hnb hne
    have hnone : Dk.getL p.1 s.fs = none := by
      cases hg : Dk.getL p.1 s.fs with
      | none => rfl
      | some f =>
        have e1 := Dk.putL_set p.2 hI.rise hg
        have e2 := congrArg List.length (e1.symm.trans hput)
        unfold Dk.setL at e2
        simp at e2
        omega
    rcases h.row.2 with ⟨rfl, hn⟩ | ⟨g, cap, cur, rfl, _⟩
    · exact rput_first p w h (List.eq_nil_of_length_eq_zero hn)
    · exact rput_more p w h hI (hmore hnone) ht hb hnb hne

set_option maxRecDepth 100000 in
set_option maxHeartbeats 4000000 in
theorem rdrop_any (k : List UInt8) (w : World) (h : RefG w r v s) (hI : Inv s) {j : Nat} (hj : j < s.fs.length) (hk : (s.fs[j]).1 = k) :
    Calls Try.prog 46 #[.pointer (some ⟨r, 0, none⟩), .int .i64 (j : Int)] w fun e w' => e = .returned (.tuple #[]) ∧ RGoes w w' r v { s with fs := Dk.delL k s.fs } := by
  have H : Hid (RefG w r v s) := h
  have HDel : Hid (Dk.delL k s.fs = s.fs.take j ++ s.fs.drop (j + 1)) := del_at hI.rise hj hk
  have hfew := hI.few
  obtain ⟨a', c, hv, hnc, hcm, hpos⟩ := row3 h.row
  obtain ⟨g, rfl⟩ := hpos (by omega)
  unfold maxLen at hcm
  have hrow := h.row
  have c0 := h.cells.1
  rw [hv] at hrow c0
  have HRow : Hid (w.ownsRow 0 61 3 (.slice (some ⟨g, 0, none⟩) s.fs.length c) s.fs.length (rcells s.fs)) := hrow
  have HV : Hid (v = .slice (some ⟨g, 0, none⟩) s.fs.length c) := hv
  have hrl : r < w.heap.size := lt_of h.top
  have hgl : g < w.heap.size := (hrow.lt g rfl).2
  obtain ⟨i0, hi, hz0, hz1, hz2⟩ := info_parts infoF
  have hsl1 : ∀ W, (Instr.slice 54 (.slice (some ⟨g, 0, none⟩) s.fs.length c) none (some (.int .i64 (j : Int))) none).run Try.prog W = .ok (.slice (some ⟨g, 0, none⟩) j c) W := fun W => cutF g s.fs.length c j (by omega) W
  obtain ⟨A2, hA2⟩ : ∃ A2 : Nat, (if c = j + 1 then (0 : Nat) else (j + 1) * 3) = A2 := ⟨_, rfl⟩
  have hsl2 : ∀ W, (Instr.slice 54 (.slice (some ⟨g, 0, none⟩) s.fs.length c) (some (.int .i64 ((j : Int) + 1))) none none).run Try.prog W = .ok (.slice (some ⟨g, A2, none⟩) (s.fs.length - (j + 1)) (c - (j + 1))) W := fun W => by
    rw [show (j : Int) + 1 = ((j + 1 : Nat) : Int) from by omega, restF g s.fs.length c (j + 1) (by omega) W, ← hA2]
    split <;> rfl
  have HA2 : Hid (j + 1 < s.fs.length → A2 = (j + 1) * 3) := fun hh => by rw [← hA2, if_neg (by omega)]
  clear h hI hv hrow hpos hA2 hk
  go_enter Try.func46, Try.ntmps46
  go_wp2_with (at_builtin; go_must (refine wpList_append_own _ rfl _ _ 54 rfl w.heap.size 61 i0 _ 3 40 Try.underlying54 hi hz0 hz1 hz2 rfl (by decide) _ 0 [] rfl (World.ownsRow_nil _ _ _ _) ⟨g, 0, none⟩ j c (rcells (s.fs.take j)) rfl ?q1 ?q2 ?q3 ?q4 ?q5 ?q6 ?_))
  case q1 => rw [rcells_length, List.length_take]; congr 1; omega
  case q2 => exact src_take HRow.out (by omega)
  case q3 => exact rcells_one _
  case q4 => unfold maxLen; omega
  case q5 => omega
  case q6 => exact Nat.le_refl _
  intro v1 w1 hown1 hgrow1 _
  have HO1 : Hid (w1.ownsRow w.heap.size 61 3 v1 j (rcells (s.fs.take j))) := by
    show w1.ownsRow _ _ _ _ _ _
    simpa using hown1
  have old1 : Hid (∀ b, b < w.heap.size → w1.heap[b]? = w.heap[b]?) := fun b hb' => grown_old hgrow1 (base := w.heap.size) (fun k hk => by cases hk) hb' (Nat.le_refl _)
  have hsz1 : w.heap.size ≤ w1.heap.size := hgrow1.size
  have HT1 : Hid (Turn (fun i => w.heap.size ≤ i) w w1) := Turn.ofGrown hgrow1 (fun k hk => by cases hk)
  have d0 : w1.cell? ⟨r, 0, none⟩ = some (.slice (some ⟨g, 0, none⟩) s.fs.length c) := (World.cell?_of_block (w := w) (a := ⟨r, 0, none⟩) (old1.out _ hrl)).trans c0
  have HRow1 : Hid (w1.ownsRow 0 61 3 (.slice (some ⟨g, 0, none⟩) s.fs.length c) s.fs.length (rcells s.fs)) := ownsRow_block HRow.out (fun b hb' => by cases hb'; exact old1.out g hgl)
  clear hown1 hgrow1
  go_wp2_with (at_builtin; go_must (refine wpList_append_own _ rfl _ _ 54 rfl w.heap.size 61 i0 _ 3 40 Try.underlying54 hi hz0 hz1 hz2 rfl (by decide) _ j _ rfl HO1.out ⟨g, A2, none⟩ (s.fs.length - (j + 1)) (c - (j + 1)) (rcells (s.fs.drop (j + 1))) rfl ?q1 ?q2 ?q3 ?q4 ?q5 ?q6 ?_))
  case q1 => rw [rcells_length, List.length_drop]
  case q2 => exact src_drop HRow1.out (by omega) HA2.out
  case q3 => exact rcells_one _
  case q4 => unfold maxLen; omega
  case q5 => omega
  case q6 => omega
  intro v3 w3 hown3 hgrow3 _
  have HO3 : Hid (w3.ownsRow w.heap.size 61 3 v3 (j + (s.fs.length - (j + 1))) (rcells (s.fs.take j) ++ rcells (s.fs.drop (j + 1)))) := hown3
  have hblk : w3.heap[r]? = w.heap[r]? := (grown_old hgrow3 (base := w.heap.size) (fun k hk => (HO1.out.lt k hk).1) hrl hsz1).trans (old1.out r hrl)
  have HBlk : Hid (w3.heap[r]? = w.heap[r]?) := hblk
  have g1 : w3.cell? ⟨r, 0, none⟩ = some (.slice (some ⟨g, 0, none⟩) s.fs.length c) := (World.cell?_of_block (w := w) (a := ⟨r, 0, none⟩) hblk).trans c0
  have g2 : w3.frozen? ⟨r, 0, none⟩ = false := frozen_of (hblk.trans H.out.top) 0
  have HT3 : Hid (Turn (rfoot r v) w w3) := by
    have t3 : Turn (fun i => w.heap.size ≤ i) w w3 := HT1.out.trans (Turn.ofGrown hgrow3 (fun k hk => (HO1.out.lt k hk).1))
    exact (Turn.refl _ w).transNew t3 (fun i hi' => Or.inr hi')
  obtain ⟨a3, c3, hv3, -⟩ := row3 HO3.out
  rw [hv3] at HO3
  clear hown3 hgrow3 hblk
  subst hv3
  go_wp2
  go_end0
  refine ⟨rfl, ?_⟩
  refine rnew_row H.out HT3.out rfl rfl ?_ HBlk.out rfl
  show w3.ownsRow w.heap.size 61 3 _ (Dk.delL k s.fs).length (rcells (Dk.delL k s.fs))
  have e1 : (Dk.delL k s.fs).length = j + (s.fs.length - (j + 1)) := by rw [HDel.out]; simp; omega
  rw [e1, HDel.out, rcells_append]
  exact HO3.out

end
end Go.Proofs.Ytbiombolpfhdlaa
