/- The reference disk: Names. -/
import Derived.Test.YtbiombolpfhdlaaRefI
import Derived.Test.YtbiombolpfhdlaaAll
namespace Go.Proofs.Ytbiombolpfhdlaa
open Go.RowKit Go.Maps

section
variable {r : Nat} {v : Value} {s : Dk.Dsk}

theorem keys_next (l : List (List UInt8 × Dk.Fil)) (j : Nat) (h : j < l.length) : Dk.keysL (l.take (j + 1)) = Dk.keysL (l.take j) ++ [(l[j]).1] := by
  unfold Dk.keysL
  rw [List.take_succ_eq_append_getElem h, List.map_append]
  rfl

theorem RefG.below {w w' : World} (h : RefG w r v s) (hb : Below w.heap.size w w') : RefG w' r v s := h.kept (S := fun _ => False) (Turn.ofBelow _ hb) (fun _ _ h => h)

set_option maxRecDepth 100000 in
set_option maxHeartbeats 1000000 in
theorem rnames_any (w : World) (h : RefG w r v s) (hfew : s.fs.length ≤ 64) :
    Calls Try.prog 35 #[.pointer (some ⟨r, 0, none⟩)] w fun e w' => ∃ u, e = .returned u ∧ StrsAt w' u (Dk.keysL s.fs) ∧ Below w.heap.size w w' := by
  have H : Hid (RefG w r v s) := h
  obtain ⟨i0, hi, hz0, hz1, hz2⟩ := info_parts infoS
  obtain ⟨a, c, hv, hnc, hcm, hpos⟩ := row3 h.row
  have HV : Hid (v = .slice a s.fs.length c) := hv
  have HPos : Hid (0 < s.fs.length → ∃ g, a = some ⟨g, 0, none⟩) := hpos
  unfold maxLen at hcm
  clear h hv hpos
  go_enter Try.func35, Try.ntmps35
  go_wp2_with fail
  go_loopw [3, 4] (fun out i wr => ∃ j : Nat, j ≤ s.fs.length ∧ i = .int .i64 j ∧ wr.ownsRow w.heap.size 9 1 out j ((Dk.keysL (s.fs.take j)).map Go.Proofs.encStr) ∧ Below w.heap.size w wr) (fun _ i _ => s.fs.length - (intOf i).toNat)
  case atStart => exact ⟨0, Nat.zero_le _, rfl, World.ownsRow_nil _ _ _ _, Below.refl _ _⟩
  case round =>
    obtain ⟨j, hj, rfl, hrow, hbr⟩ := hrel
    have HR : Hid (wr.ownsRow w.heap.size 9 1 u3 j ((Dk.keysL (s.fs.take j)).map Go.Proofs.encStr)) := hrow
    have hG : RefG wr r v s := H.out.below hbr
    have c0 : wr.cell? ⟨r, 0, none⟩ = some (.slice a s.fs.length c) := hG.cells.1.trans (congrArg some HV.out)
    have hrw := hG.row
    rw [HV.out] at hrw
    have HRw : Hid (wr.ownsRow 0 61 3 (.slice a s.fs.length c) s.fs.length (rcells s.fs)) := hrw
    have hsz1 : w.heap.size ≤ wr.heap.size := hbr.size
    clear hrow hG hrw
    by_cases hlt : j < s.fs.length
    · obtain ⟨g, rfl⟩ := HPos.out (by omega)
      obtain ⟨q0, -, -⟩ := row_file HRw.out hlt
      obtain ⟨k, hke⟩ : ∃ k : ByteArray, bs (s.fs[j]).1 = k := ⟨_, rfl⟩
      rw [hke] at q0
      have HK : Hid (Go.Proofs.encStr (s.fs[j]).1 = .string k) := by show _ = _; rw [← hke]; rfl
      have hlI : (j : Int) < (s.fs.length : Int) := by omega
      clear hke
      go_wp2_with (at_builtin; go_must (refine wpList_append_own _ rfl _ _ 40 rfl w.heap.size 9 i0 (.string ByteArray.empty) 1 16 Try.underlying40 hi hz0 hz1 hz2 rfl (by decide) _ j _ rfl (HR.out.alloc _) ⟨wr.heap.size, 0, none⟩ 1 1 [.string k] rfl rfl ?q1 ?q2 ?q3 ?q4 ?q5 ?_))
      case q1 =>
        intro i u hu
        rw [Addr.add_lit, cell_of (heap_new wr _)]
        match i, hu with
        | 0, hu => simpa using hu
      case q2 =>
        intro u hu
        simp only [List.mem_cons, List.not_mem_nil, or_false] at hu
        subst hu
        rfl
      case q3 => unfold maxLen; omega
      case q4 => omega
      case q5 => simp; omega
      intro v' w3 hown3 hgrow3 _
      go_wp2
      go_roundw
      case rel =>
        refine ⟨j + 1, by omega, by go_num, ?_, ?_⟩
        · rw [keys_next _ _ hlt, List.map_append]
          have e3 : [(s.fs[j]).1].map Go.Proofs.encStr = [Value.string k] := by
            show [Go.Proofs.encStr (s.fs[j]).1] = _
            rw [HK.out]
          rw [e3]
          exact hown3
        · exact (hbr.alloc hsz1 _).grown hgrow3 (by simp; omega) (fun i hi => (HR.out.lt i hi).1)
      case measure => simp [intOf]; omega
    · have ej : j = s.fs.length := by omega
      subst ej
      have hrow := HR.out
      rw [List.take_of_length_le (Nat.le_refl _)] at hrow
      have HS : Hid (StrsAt wr u3 (Dk.keysL s.fs)) := (strs_of_row hrow).1
      clear hrow
      go_wp2
      go_ret
      exact ⟨_, rfl, HS.out, hbr⟩

end
end Go.Proofs.Ytbiombolpfhdlaa
