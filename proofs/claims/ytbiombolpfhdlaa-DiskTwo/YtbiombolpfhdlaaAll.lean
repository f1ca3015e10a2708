/- all: each file's name and bytes, in order. -/
import Derived.Test.YtbiombolpfhdlaaTexts
namespace Go.Proofs.Ytbiombolpfhdlaa
open Go.RowKit Go.Maps

def flat (l : List (List UInt8 × Dk.Fil)) : List (List UInt8) := l.flatMap (fun p => [p.1, p.2.data])
theorem flat_length (l : List (List UInt8 × Dk.Fil)) : (flat l).length = 2 * l.length := by
  unfold flat
  induction l with
  | nil => rfl
  | cons p r ih => simp [List.flatMap_cons] at *; omega
theorem flat_next (l : List (List UInt8 × Dk.Fil)) (j : Nat) (h : j < l.length) : flat (l.take (j + 1)) = flat (l.take j) ++ [(l[j]).1, (l[j]).2.data] := by
  unfold flat
  rw [List.take_succ_eq_append_getElem h, List.flatMap_append]
  simp

theorem getL_of_mem {α : Type} {k : List UInt8} {a : α} {l : List (List UInt8 × α)} (h : Dk.Rise l) (hm : (k, a) ∈ l) : Dk.getL k l = some a := by
  cases hg : Dk.getL k l with
  | none => exact absurd rfl (Dk.getL_none hg _ hm)
  | some b => rw [Dk.getL_unique h hg hm]

theorem infoS : (Try.prog.info? 9).map (fun i => (i.zero, i.size, i.bytes)) = some (some (.string ByteArray.empty), 1, 16) := by kernel_rfl

section
variable {d m : Nat} {G : List (List UInt8 × Gc)} {s : Dk.Dsk}

theorem DiskG.name_ok {w : World} (h : DiskG Try.prog w d m G s) {j : Nat} (hj : j < s.fs.length) : Dk.okName (s.fs[j]).1 = true := by
  have hm : s.fs[j] ∈ s.fs := List.getElem_mem hj
  have : ∀ p ∈ s.fs, Dk.okName p.1 = true := by
    intro p hp
    rw [h.fs] at hp
    unfold Dk.mapL at hp
    obtain ⟨q, hq, rfl⟩ := List.mem_map.1 hp
    exact h.names q hq
  exact this _ hm

theorem DiskG.read_at {w : World} (h : DiskG Try.prog w d m G s) {j : Nat} (hj : j < s.fs.length) : Dk.findE s (s.fs[j]).1 = 0 ∧ Dk.readV s (s.fs[j]).1 = (s.fs[j]).2.data := by
  have hg : Dk.getL (s.fs[j]).1 s.fs = some (s.fs[j]).2 := getL_of_mem h.riseF (List.getElem_mem hj)
  have e : Dk.findE s (s.fs[j]).1 = 0 := by unfold Dk.findE; rw [h.name_ok hj, hg]; rfl
  refine ⟨e, ?_⟩
  unfold Dk.readV
  rw [if_pos e, hg]
  rfl

theorem DiskG.file_len {w : World} (h : DiskG Try.prog w d m G s) {j : Nat} (hj : j < s.fs.length) : (s.fs[j]).2.data.length ≤ 262144 := by
  have hm : s.fs[j] ∈ s.fs := List.getElem_mem hj
  have : ∀ p ∈ s.fs, p.2.data.length ≤ 262144 := by
    intro p hp
    rw [h.fs] at hp
    unfold Dk.mapL at hp
    obtain ⟨q, hq, rfl⟩ := List.mem_map.1 hp
    exact (h.files q hq).len
  exact this _ hm

/-- the names, told by the files -/
theorem names_strs (w : World) (h : DiskG Try.prog w d m G s) :
    Calls Try.prog 34 #[.pointer (some ⟨d, 0, none⟩)] w fun e w' => ∃ a c, e = .returned (.slice a s.fs.length c) ∧ s.fs.length ≤ c ∧ c ≤ maxLen ∧ StrsAt w' (.slice a s.fs.length c) (Dk.keysL s.fs) ∧ DiskG Try.prog w' d m G s ∧ Below w.heap.size w w' := by
  refine (names_any w h).mono ?_
  rintro e w' ⟨v, rfl, hrow, hb⟩
  have hk : Dk.keysL G = Dk.keysL s.fs := by rw [h.fs, Dk.keysL_mapL]
  rw [hk, ← h.len_fs] at hrow
  obtain ⟨hs, _⟩ := strs_of_row hrow
  have hs' := hs
  obtain ⟨a, c, rfl, hc1, hc2, _⟩ := hs
  have hkl : (Dk.keysL s.fs).length = s.fs.length := by unfold Dk.keysL; simp
  rw [hkl] at hs' hc1 ⊢
  exact ⟨a, c, rfl, hc1, hc2, hs', h.kept (S := fun _ => False) (Turn.ofBelow _ hb) (fun _ _ h => h), hb⟩

set_option maxRecDepth 100000 in
set_option maxHeartbeats 2000000 in
theorem all_any (w : World) (h : DiskG Try.prog w d m G s) :
    Calls Try.prog 21 #[.pointer (some ⟨d, 0, none⟩)] w fun e w' => ∃ v, e = .returned v ∧ w'.ownsRow w.heap.size 9 1 v (2 * s.fs.length) ((flat s.fs).map Go.Proofs.encStr) ∧ DiskG Try.prog w' d m G s ∧ Below w.heap.size w w' := by
  have H : Hid (DiskG Try.prog w d m G s) := h
  have hn64 : s.fs.length ≤ 64 := by rw [h.len_fs]; exact h.few
  obtain ⟨i0, hi, hz0, hz1, hz2⟩ := info_parts infoS
  clear h
  go_enter Try.func21, Try.ntmps21
  go_wp2_with fail
  refine (names_strs w H.out).mono ?_
  rintro e w1 ⟨a, c, rfl, hc1, hc2, hst, hD1, hb1⟩
  have HSt : Hid (StrsAt w1 (.slice a s.fs.length c) (Dk.keysL s.fs)) := hst
  have HD1 : Hid (DiskG Try.prog w1 d m G s) := hD1
  unfold maxLen at hc2
  clear hst hD1
  go_wp2_with fail
  go_loopw [3, 11] (fun out i wr => ∃ j : Nat, j ≤ s.fs.length ∧ i = .int .i64 j ∧ wr.ownsRow w1.heap.size 9 1 out (2 * j) ((flat (s.fs.take j)).map Go.Proofs.encStr) ∧ Below w1.heap.size w1 wr) (fun _ i _ => s.fs.length - (intOf i).toNat)
  case atStart => exact ⟨0, Nat.zero_le _, rfl, World.ownsRow_nil _ _ _ _, Below.refl _ _⟩
  case round =>
    obtain ⟨j, hj, rfl, hrow, hbr⟩ := hrel
    have HR : Hid (wr.ownsRow w1.heap.size 9 1 u3 (2 * j) ((flat (s.fs.take j)).map Go.Proofs.encStr)) := hrow
    have HDr : Hid (DiskG Try.prog wr d m G s) := HD1.out.kept (S := fun _ => False) (Turn.ofBelow _ hbr) (fun _ _ h => h)
    have HSr : Hid (StrsAt wr (.slice a s.fs.length c) (Dk.keysL s.fs)) := HSt.out.below hbr
    clear hrow
    by_cases hlt : j < s.fs.length
    · obtain ⟨a2, c2', e1, _, _, hx⟩ := HSr.out
      have hkl : (Dk.keysL s.fs).length = s.fs.length := by unfold Dk.keysL; simp
      obtain ⟨b, off, ha, _, hcell⟩ := hx (by intro e; rw [e] at hkl; simp at hkl; omega)
      have hq := hcell j (by rw [hkl]; exact hlt)
      obtain ⟨e2, -⟩ : a2 = a ∧ c = c2' := by
        rw [hkl] at e1
        cases e1
        exact ⟨rfl, rfl⟩
      rw [ha] at e2
      have hnm : (Dk.keysL s.fs)[j]'(by rw [hkl]; exact hlt) = (s.fs[j]).1 := by simp [Dk.keysL]
      rw [hnm] at hq
      obtain ⟨k, hkd, hke⟩ : ∃ k : ByteArray, k.data.toList = (s.fs[j]).1 ∧ Go.Proofs.encStr (s.fs[j]).1 = .string k := ⟨⟨(s.fs[j]).1.toArray⟩, by simp, rfl⟩
      rw [hke] at hq
      have hks : k.size ≤ maxLen := by
        have e1 := HDr.out.name_ok hlt
        unfold Dk.okName at e1
        simp only [Bool.and_eq_true, decide_eq_true_eq] at e1
        have e2 : k.size = (s.fs[j]).1.length := by rw [← hkd]; rfl
        unfold maxLen
        omega
      have HRd : Hid (Calls Try.prog 23 #[.pointer (some ⟨d, 0, none⟩), .string k] wr fun e w' => e = .returned (.tuple #[.string ⟨(s.fs[j]).2.data.toArray⟩, .int .i64 0]) ∧ w' = wr) := by
        have := read_any k wr HDr.out hks
        rw [hkd, (HDr.out.read_at hlt).1, (HDr.out.read_at hlt).2] at this
        exact this
      obtain ⟨k2, hk2⟩ : ∃ k2 : ByteArray, (⟨(s.fs[j]).2.data.toArray⟩ : ByteArray) = k2 := ⟨_, rfl⟩
      rw [hk2] at HRd
      have HK2 : Hid (Go.Proofs.encStr (s.fs[j]).2.data = .string k2) := by show Value.string _ = _; rw [hk2]
      have HK1 : Hid (Go.Proofs.encStr (s.fs[j]).1 = .string k) := hke
      clear hkd hke hks hk2 hcell hnm hx e1 HSr ha
      subst e2
      go_wp2_with fail
      refine HRd.out.mono ?_
      rintro e w2 ⟨rfl, hw2⟩
      subst w2
      have hsz1 : w1.heap.size ≤ wr.heap.size := hbr.size
      go_wp2_with (at_builtin; go_must (refine wpList_append_own _ rfl _ _ 40 rfl w1.heap.size 9 i0 (.string ByteArray.empty) 1 16 Try.underlying40 hi hz0 hz1 hz2 rfl (by decide) _ (2 * j) _ rfl (HR.out.alloc _) ⟨wr.heap.size, 0, none⟩ 2 2 [.string k, .string k2] rfl rfl ?q1 ?q2 ?q3 ?q4 ?q5 ?_))
      case q1 =>
        intro i u hu
        rw [Addr.add_lit, cell_of (heap_new wr _)]
        match i, hu with
        | 0, hu => simpa using hu
        | 1, hu => simpa using hu
      case q2 =>
        intro u hu
        simp only [List.mem_cons, List.not_mem_nil, or_false] at hu
        rcases hu with rfl | rfl <;> rfl
      case q3 => unfold maxLen; omega
      case q4 => omega
      case q5 => simp; omega
      intro v' w3 hown3 hgrow3 _
      go_wp2
      go_roundw
      case rel =>
        refine ⟨j + 1, by omega, by go_num, ?_, ?_⟩
        · rw [flat_next _ _ hlt, List.map_append, show 2 * (j + 1) = 2 * j + 2 from by omega]
          have e3 : [(s.fs[j]).1, (s.fs[j]).2.data].map Go.Proofs.encStr = [Value.string k, Value.string k2] := by
            show [Go.Proofs.encStr (s.fs[j]).1, Go.Proofs.encStr (s.fs[j]).2.data] = _
            rw [HK1.out, HK2.out]
          rw [e3]
          exact hown3
        · exact (hbr.alloc hsz1 _).grown hgrow3 (by simp; omega) (fun i hi => (HR.out.lt i hi).1)
      case measure => simp [intOf]; omega
    · have ej : j = s.fs.length := by omega
      subst ej
      have hrow := HR.out
      rw [List.take_of_length_le (Nat.le_refl _)] at hrow
      have HS : Hid (wr.ownsRow w.heap.size 9 1 u3 (2 * s.fs.length) ((flat s.fs).map Go.Proofs.encStr)) := ownsRow_base_a hrow hb1.size
      have HB : Hid (Below w.heap.size w wr) := hb1.trans (hbr.mono hb1.size)
      clear hrow
      go_wp2
      go_ret
      exact ⟨_, rfl, HS.out, HDr.out, HB.out⟩

end
end Go.Proofs.Ytbiombolpfhdlaa
