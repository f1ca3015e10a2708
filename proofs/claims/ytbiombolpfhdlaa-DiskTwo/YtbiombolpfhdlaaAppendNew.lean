/- Append to a file that is not there; Append. -/
import Derived.Test.YtbiombolpfhdlaaAppend
namespace Go.Proofs.Ytbiombolpfhdlaa
open Go.RowKit Go.Maps

section
variable {d m : Nat} {G : List (List UInt8 × Gc)} {s : Dk.Dsk}

theorem DiskG.alloc {w : World} (h : DiskG Try.prog w d m G s) (o : Obj) : DiskG Try.prog (w.alloc o) d m G s :=
  h.kept (S := fun _ => False) (Turn.alloc w o) (fun _ _ h => h)

theorem heap_new (w : World) (o : Obj) : (w.alloc o).heap[w.heap.size]? = some o := heap_alloc_new w o

theorem Goes.alloc {w w' : World} {o : Obj} {s' : Dk.Dsk} (h : Goes (w.alloc o) w' d m G s') : Goes w w' d m G s' := by
  obtain ⟨G', h1, h2, h3⟩ := h
  refine ⟨G', h1, (Turn.alloc w o).trans h2, fun i hi => (h3 i hi).imp id (fun h4 => ?_)⟩
  rw [World.size_alloc] at h4
  omega

theorem append_new_end {w w1 w2 w3 : World} {k data : ByteArray} {a' : Option Addr} {c' : Nat} (h : DiskG Try.prog w d m G s)
    (h1 : DiskG Try.prog w1 d m G (Dk.changeS s)) (ht : Turn (fun i => i = d) (w.alloc (.cells #[.slice none 0 0, .int .i64 0] 67 (0, 0))) w1) (hg : Dk.getL k.data.toList G = none)
    (ho : Dk.okS k = true) (hb : Dk.burnt s = false) (hL : Dk.tooLong s k.data.toList data.data.toList = false) (hlen : data.size ≤ 262144) (hfew : G.length + 1 ≤ 64)
    (hrow2 : w2.ownsRow 0 5 1 (.slice a' data.size c') data.size (Lib.strCells data)) (hgrow2 : w1.grownBy w2 none)
    (hloc : ∀ b, (Value.slice a' data.size c').ownBlock = some b → w1.heap.size ≤ b)
    {n : Nat} (hm : w3.ownsMap Try.prog 9 ptrR m n ((Dk.toD tok G).put (.string k.data.toList) (.lit (.int .i64 (w.heap.size : Int))))) (htm : (w2.setCell ⟨w.heap.size, 0, none⟩ (.slice a' data.size c')).mapTurned w3 m) :
    Goes w w3 d m G (Dk.appendS s k.data.toList data.data.toList) := by
  have hsz : data.data.toList.length = data.size := rfl
  have hwd : d < w.heap.size := lt_of h.top
  have hw1 : w.heap.size < w1.heap.size := by have := ht.size; rw [World.size_alloc] at this; omega
  have hnew1 : w1.heap[w.heap.size]? = some (.cells #[.slice none 0 0, .int .i64 0] 67 (0, 0)) := (ht.block _ (by simp) (by omega)).trans (heap_new w _)
  have hnew2 : w2.heap[w.heap.size]? = some (.cells #[.slice none 0 0, .int .i64 0] 67 (0, 0)) := (hgrow2.block _ hw1 (by simp)).trans hnew1
  -- behind the store: the disk as it was, the new file beside it
  have hts : Turn (fun i => i = w.heap.size) w1 (w2.setCell ⟨w.heap.size, 0, none⟩ (.slice a' data.size c')) :=
    (Turn.ofGrown hgrow2 (fun k hk => by cases hk)).trans (Turn.setCell w2 ⟨w.heap.size, 0, none⟩ _ rfl)
  have hlt : ∀ i, foot d m G i → i < w.heap.size := fun i hi => h.lt hi
  have h2 : DiskG Try.prog (w2.setCell ⟨w.heap.size, 0, none⟩ (.slice a' data.size c')) d m G (Dk.changeS s) := h1.kept hts (fun i hi e => by have := hlt i hi; omega)
  have hmlt : m < w.heap.size := h.map.lt
  have tm := turn_of_map htm
  have hs2 : w1.heap.size ≤ w2.heap.size := hgrow2.size
  have hf' : FileAt w3 ⟨w.heap.size, .slice a' data.size c', ⟨data.data.toList, 0⟩⟩ := by
    refine ⟨?_, ?_, Nat.zero_le _, ?_⟩
    · show w3.heap[w.heap.size]? = _
      rw [tm.block _ (by simp; omega) (by omega), heap_setCell_same hnew2]
      simp
    · show World.ownsRow _ 0 5 1 _ data.data.toList.length (Lib.strCells data)
      rw [hsz]
      refine ownsRow_block hrow2 (fun i hi => ?_)
      have h4 := hloc i hi
      obtain ⟨cur, hc, _⟩ := ownsRow_own hrow2 hi
      have h5 := lt_of hc
      rw [tm.block i (by simp; omega) (by omega)]
      exact Below.heap_setCell _ _ _ _ (by show i ≠ w.heap.size; omega)
    · exact hlen
  have e1 : (Dk.toD tok G).put (.string k.data.toList) (.lit (.int .i64 (w.heap.size : Int))) = Dk.toD tok (Dk.putL k.data.toList ⟨w.heap.size, .slice a' data.size c', ⟨data.data.toList, 0⟩⟩ G) := by
    rw [← Dk.toD_put]
    rfl
  rw [e1] at hm
  have hD3 := h2.putFile tm hm hf' ho (fun p hp _ => ⟨by
      have := hlt _ (Or.inr (Or.inr ⟨p, hp, Or.inl rfl⟩))
      show w.heap.size ≠ p.2.blk
      omega, fun i hi hi' => by
      have := hlt _ (Or.inr (Or.inr ⟨p, hp, Or.inr hi'⟩))
      have := hloc i hi
      omega⟩) (by rw [length_putL_none hg]; exact hfew)
  have e : Dk.appendS s k.data.toList data.data.toList = { Dk.changeS s with fs := Dk.putL k.data.toList ⟨data.data.toList, 0⟩ (Dk.changeS s).fs } := by
    unfold Dk.appendS
    rw [← okS_def, ho, hL, hb, changeS_fs, h.getL_fs, hg]
    rfl
  rw [e]
  have t1 : Turn (foot d m G) w w1 := (Turn.alloc w _).trans (ht.mono (fun _ hi => Or.inl hi))
  refine ⟨_, hD3, ?_, ?_⟩
  · refine (t1.transNew hts (fun i hi => Or.inr (by omega))).trans (tm.mono (fun i hi => Or.inr (Or.inl hi)))
  · rintro i (rfl | rfl | ⟨p, hp, hi⟩)
    · exact Or.inl (Or.inl rfl)
    · exact Or.inl (Or.inr (Or.inl rfl))
    · unfold Dk.putL at hp
      rcases Dk.mem_insL.1 hp with rfl | hp
      · refine Or.inr ?_
        rcases hi with hi | hi
        · have hi : i = w.heap.size := hi
          omega
        · have := hloc i hi
          omega
      · exact Or.inl (Or.inr (Or.inr ⟨p, (Dk.mem_delL.1 hp).1, hi⟩))

set_option maxRecDepth 100000 in
set_option maxHeartbeats 1000000 in
theorem append_new (k data : ByteArray) (w : World) (h : DiskG Try.prog w d m G s) (hk : k.size ≤ maxLen) (_hds : data.size ≤ maxLen) (ho : Dk.okS k = true) (hg : Dk.getL k.data.toList G = none) :
    Calls Try.prog 16 #[.pointer (some ⟨d, 0, none⟩), .string k, .string data] w fun e w' => e = .returned (.int .i64 (Dk.appendE s k.data.toList data.data.toList)) ∧ Goes w w' d m G (Dk.appendS s k.data.toList data.data.toList) := by
  have H : Hid (DiskG Try.prog w d m G s) := h
  have HG : Hid (Dk.getL k.data.toList G = none) := hg
  have HA : Hid (∀ o, DiskG Try.prog (w.alloc o) d m G s) := fun o => h.alloc o
  obtain ⟨c0, -, -, -⟩ := h.cells
  have hwd : d < w.heap.size := lt_of h.top
  have hr := h.look_none hk hg
  have hlm : ∀ o ty, (Builtin.len_ #[51] ty #[.map (some m)]).run Try.prog (w.alloc o) = .ok (.int .i64 (G.length : Int)) (w.alloc o) := fun o ty => (h.alloc o).len_map ty
  have hTL : Dk.tooLong s k.data.toList data.data.toList = (decide (262144 < data.size) || decide (64 ≤ G.length)) := by
    unfold Dk.tooLong
    rw [h.getL_fs, hg, h.len_fs]
    simp [Dk.fileOr]
  unfold maxLen at _hds
  clear hg h
  by_cases hlong : (262144 : Int) < (data.size : Int)
  · have e0 : Dk.tooLong s k.data.toList data.data.toList = true := by rw [hTL, decide_eq_true (by omega)]; rfl
    have e1 : Dk.appendE s k.data.toList data.data.toList = 2 := by unfold Dk.appendE; rw [← okS_def, ho, e0]; rfl
    have e2 : Dk.appendS s k.data.toList data.data.toList = s := by unfold Dk.appendS; rw [← okS_def, ho, e0]; rfl
    rw [e1, e2]
    clear e0 e1 e2 hTL
    go_enter Try.func16, Try.ntmps16
    go_wp2_with (go_at_call 36; refine (nameMayBe_any _ _ hk).mono ?_; rintro e w' ⟨rfl, hw⟩; subst w')
    go_ret
    exact ⟨rfl, (Goes.stay (HA.out _)).alloc⟩
  · by_cases hmany : (64 : Int) ≤ (G.length : Int)
    · have e0 : Dk.tooLong s k.data.toList data.data.toList = true := by rw [hTL, decide_eq_true (p := 64 ≤ G.length) (by omega)]; simp
      have e1 : Dk.appendE s k.data.toList data.data.toList = 2 := by unfold Dk.appendE; rw [← okS_def, ho, e0]; rfl
      have e2 : Dk.appendS s k.data.toList data.data.toList = s := by unfold Dk.appendS; rw [← okS_def, ho, e0]; rfl
      rw [e1, e2]
      clear e0 e1 e2 hTL
      go_enter Try.func16, Try.ntmps16
      go_wp2_with (go_at_call 36; refine (nameMayBe_any _ _ hk).mono ?_; rintro e w' ⟨rfl, hw⟩; subst w')
      go_ret
      exact ⟨rfl, (Goes.stay (HA.out _)).alloc⟩
    · have e0 : Dk.tooLong s k.data.toList data.data.toList = false := by rw [hTL, decide_eq_false (p := 64 ≤ G.length) (by omega), decide_eq_false (p := 262144 < data.size) (by omega)]; rfl
      have HL : Hid (Dk.tooLong s k.data.toList data.data.toList = false) := e0
      have e1 : Dk.appendE s k.data.toList data.data.toList = Dk.changeE s := by unfold Dk.appendE; rw [← okS_def, ho, e0]; rfl
      rw [e1]
      clear e0 e1 hTL
      cases hb : Dk.burnt s with
      | true =>
        have hE := changeE_burnt hb
        rw [show Dk.appendS s k.data.toList data.data.toList = Dk.changeS s from by unfold Dk.appendS; rw [← okS_def, ho, HL.out, hb]; rfl]
        go_enter Try.func16, Try.ntmps16
        go_wp2_with (first
          | (go_at_call 36; refine (nameMayBe_any _ _ hk).mono ?_; rintro e w' ⟨rfl, hw⟩; subst w')
          | (go_at_call 37; refine (change_any _ (HA.out _)).mono ?_; rintro e w1 ⟨rfl, h1, ht⟩))
        go_ret
        exact ⟨ret_int hE.symm, (Goes.top h1 ht).alloc⟩
      | false =>
        have hE := changeE_not hb
        obtain ⟨i0, hi, hz0, hz1, hz2⟩ := info_parts infoB
        have HB : Hid (Dk.burnt s = false) := hb
        have HN : Hid (∀ w1, Turn (fun i => i = d) (w.alloc (.cells #[.slice none 0 0, .int .i64 0] 67 (0, 0))) w1 → w1.heap[w.heap.size]? = some (.cells #[.slice none 0 0, .int .i64 0] 67 (0, 0)) ∧ w1.cell? ⟨w.heap.size, 0, none⟩ = some (.slice none 0 0)) := by
          intro w1 ht
          have n1 := (ht.block w.heap.size (by simp) (by omega)).trans (heap_new w _)
          exact ⟨n1, by rw [cell_of n1]; rfl⟩
        clear hb
        go_enter Try.func16, Try.ntmps16
        go_wp2_with (first
          | (go_at_call 36; refine (nameMayBe_any _ _ hk).mono ?_; rintro e w' ⟨rfl, hw⟩; subst w')
          | (go_at_call 37; refine (change_any _ (HA.out _)).mono ?_; rintro e w1 ⟨rfl, h1, ht⟩; go_must (obtain ⟨n1, c5⟩ := HN.out _ ht; have c6 : w1.cell? ⟨d, 0, none⟩ = some (.map (some m)) := h1.cells.1))
          | (at_builtin; go_must (refine wpList_append_str _ rfl _ _ 65 9 rfl 5 i0 Try.underlying65 Try.underlying9 hi hz0 hz1 hz2 _ 0 [] rfl (World.ownsRow_nil _ _ _ _) data rfl ?q1 ?q2 ?_)))
        case q1 => unfold maxLen; omega
        case q2 => omega
        intro a' c' w2 hrow2 hgrow2 hloc2
        have hw1 : w.heap.size < w1.heap.size := lt_of n1
        have n2 : w2.heap[w.heap.size]? = some (.cells #[.slice none 0 0, .int .i64 0] 67 (0, 0)) := (hgrow2.block _ hw1 (by simp [Value.ownBlock])).trans n1
        have c7 : w2.cell? ⟨w.heap.size, 0, none⟩ = some (.slice none 0 0) := by rw [cell_of n2]; rfl
        have f7 : w2.frozen? ⟨w.heap.size, 0, none⟩ = false := frozen_of n2 0
        have c8 : w2.cell? ⟨d, 0, none⟩ = some (.map (some m)) := hgrow2.cell c6 (by simp [Value.ownBlock])
        have hdg : d ≠ w.heap.size := by omega
        have c9 : (w2.setCell ⟨w.heap.size, 0, none⟩ (.slice a' data.size c')).cell? ⟨d, 0, none⟩ = some (.map (some m)) := (World.cell?_of_block (w := w2) (Below.heap_setCell w2 ⟨w.heap.size, 0, none⟩ _ d hdg)).trans c8
        have hml : m < w.heap.size := H.out.map.lt
        have M : (w2.setCell ⟨w.heap.size, 0, none⟩ (.slice a' data.size c')).ownsMap Try.prog 9 ptrR m G.length (Dk.toD tok G) :=
          ownsMap_block h1.map ((Below.heap_setCell w2 ⟨w.heap.size, 0, none⟩ _ m (by show m ≠ w.heap.size; omega)).trans (hgrow2.block m h1.map.lt (by simp [Value.ownBlock])))
        go_wp2_with (at_mapUpdate; go_must (refine wpList_mapUpdate_in _ rfl _ _ _ 51 rfl 9 63 keyed Try.underlying51 ptrR m G.length (Dk.toD tok G) rfl M ?q3 _ _ _ rfl rfl (WideMaps.keyOf_string_mk Try.underlying9 hk) (.lit (.int .i64 (w.heap.size : Int))) [] rfl ?_))
        case q3 => unfold maxLen; omega
        intro w3 hown3 hturn3
        go_wp2
        go_ret
        refine ⟨ret_int hE.symm, append_new_end H.out h1 ht HG.out ho HB.out HL.out (by omega) (by omega) hrow2 hgrow2 ?_ hown3 hturn3⟩
        intro b hb
        rcases hloc2 b hb with h4 | h4
        · cases h4
        · exact h4

theorem append_any (k data : ByteArray) (w : World) (h : DiskG Try.prog w d m G s) (hk : k.size ≤ maxLen) (hds : data.size ≤ maxLen) :
    Calls Try.prog 16 #[.pointer (some ⟨d, 0, none⟩), .string k, .string data] w fun e w' => e = .returned (.int .i64 (Dk.appendE s k.data.toList data.data.toList)) ∧ Goes w w' d m G (Dk.appendS s k.data.toList data.data.toList) := by
  cases ho : Dk.okS k with
  | false => exact append_bad k data w h hk ho
  | true =>
    cases hg : Dk.getL k.data.toList G with
    | none => exact append_new k data w h hk hds ho hg
    | some g => exact append_old k data w h hk hds ho hg

end
end Go.Proofs.Ytbiombolpfhdlaa
