import Derived.Test.YtigegdelhpdlhaaGreatDoorJFlushJ
/- Layer 18: mark. -/
namespace Go.Proofs.YtigegdelhpdlhaaGreatDoor
open Go.RowKit QP

/-- the durable epoch is written anew -/
theorem LogG.setDur {w : World} {t k : ByteArray} {l d b : Nat} {vs : List Value} {L : Lg} (h : LogG w t k l d b vs L) (e : Nat) {F : Nat → Prop} (hF : ∀ j, F j ↔ footL l b vs j) :
    Goes (LogI t k l d { L with dur := e }) w (w.setCell ⟨l, 2, none⟩ (.int .i64 (e : Int))) F := by
  obtain ⟨cur, hcur, hce⟩ := h.row
  have hlb : b ≠ l := fun e => by
    have h1 := h.top
    rw [← e, hcur] at h1
    simp only [Option.some.injEq, Obj.cells.injEq] at h1
    exact absurd h1.2.1 (by decide)
  have hT : Turn (fun j => j = l) w (w.setCell ⟨l, 2, none⟩ (.int .i64 (e : Int))) := Turn.setCell (S := fun j => j = l) w ⟨l, 2, none⟩ _ rfl
  refine ⟨footL l b vs, ⟨b, vs, ⟨?_, ⟨cur, (hT.block b (lt_of hcur) hlb).trans hcur, hce⟩, h.len, fun i v wk hv hw => ?_, h.apart, h.few⟩, fun _ => Iff.rfl⟩, hT.mono fun j hj => (hF j).2 (Or.inl hj), fun j hj => Or.inl ((hF j).2 hj)⟩
  · exact heap_setCell_same h.top 2 _
  · refine ownsRow_block (h.own i v wk hv hw) fun g hg => hT.block g (World.ownsRow.lt (h.own i v wk hv hw) g hg).2 fun e => ?_
    obtain ⟨cur2, hc2, _⟩ := ownsRow_own (h.own i v wk hv hw) hg
    rw [e, h.top] at hc2
    simp only [Option.some.injEq, Obj.cells.injEq] at hc2
    exact absurd hc2.2.1 (by decide)

set_option maxRecDepth 100000 in
set_option maxHeartbeats 4000000 in
theorem jmark_any (t k : ByteArray) (l d ep : Nat) (s : Dk.Dsk) (L : Lg) (w : World) (F : Nat → Prop) (h : LD t k l d s L w F) (he : L.dur < ep) (he2 : ep ≤ 2147483648) (hall : ∀ wk ∈ L.ws, wk.1 = [])
    (h1 : Dk.appendE s epochB.data.toList (frameB (markN ep)).data.toList = 0) (h2 : Dk.syncE (Dk.appendS s epochB.data.toList (frameB (markN ep)).data.toList) epochB.data.toList = 0) :
    Calls Tryz.prog 41 #[.pointer (some ⟨l, 0, none⟩), .int .i64 (ep : Int)] w fun e w' => e = .returned (.tuple #[]) ∧ Goes (LD t k l d (wrS s epochB (frameB (markN ep)).data.toList) { L with dur := ep }) w w' F := by
  obtain ⟨A, B, hD, ⟨b, vs, hG, hB⟩, hAB, hAF, hBF, hFAB⟩ := id h
  have hfs : (frameB (markN ep)).size ≤ maxLen := by rw [frameB_size, markN_size]; decide
  obtain ⟨Fr, hFr⟩ : ∃ f, frameB (markN ep) = f := ⟨_, rfl⟩
  have HMk : Hid (∀ u, Calls Tryz.prog 70 #[.int .i64 (ep : Int)] u fun e w' => e = .returned (.string Fr) ∧ Below u.heap.size u w') := fun u => by
    rw [← hFr]
    exact jmarkOf_any ep u he2
  rw [hFr] at hfs h1 h2 ⊢
  obtain ⟨s2, hs2⟩ : ∃ s2, wrS s epochB Fr.data.toList = s2 := ⟨_, rfl⟩
  rw [hs2]
  have HWr : Hid (∀ u, Below w.heap.size w u → Calls Tryz.prog 67 #[.pointer (some ⟨d, 0, none⟩), .string ⟨#[101, 112, 111, 99, 104]⟩, .string Fr] u fun e w' => e = .returned (.tuple #[]) ∧ w'.heap[l]? = w.heap[l]? ∧ Hid (Goes (LD t k l d s2 L) w w' F)) := fun u hu => by
    have hAu : DiskI d s u A := (DiskI.res d s).kept (S := fun _ => False) hD (Turn.ofBelow _ hu) (fun _ _ h => h)
    have hBu : LogI t k l d L u B := (logI_res t k l d L).kept (S := fun _ => False) ⟨b, vs, hG, hB⟩ (Turn.ofBelow _ hu) (fun _ _ h => h)
    refine (jwriteD_ok epochB Fr hAu (by decide) hfs h1 h2).mono ?_
    rintro e w' ⟨e1, hg1⟩
    have hg1' : Goes (DiskI d s2) u w' A := by rw [← hs2]; exact hg1
    have hg2 := Sep.goL (logI_res t k l d L) hBu hAB hAF hBF hg1'
    refine ⟨e1, ?_, hg2.after hu⟩
    obtain ⟨A2, _, t2, _⟩ := hg1'
    have hl := lt_of hG.top
    exact (t2.block l (Nat.lt_of_lt_of_le hl hu.size) (fun hA => hAB l hA ((hB l).2 (Or.inl rfl)))).trans (hu.block l hl)
  have HSt : Hid (∀ w4 F4, LD t k l d s2 L w4 F4 → Goes (LD t k l d s2 { L with dur := ep }) w4 (w4.setCell ⟨l, 2, none⟩ (.int .i64 (ep : Int))) F4) := fun w4 F4 h4 => by
    obtain ⟨A4, B4, hD4, ⟨b4, vs4, hG4, hB4⟩, hAB4, hAF4, hBF4, _⟩ := h4
    exact (Sep.goL (DiskI.res d s2) hD4 (fun j hb ha => hAB4 j ha hb) hBF4 hAF4 (hG4.setDur ep hB4)).swap
  have HC : Hid (∀ u : World, u.heap[l]? = w.heap[l]? → u.cell? ⟨l, 0, none⟩ = some (.pointer (some ⟨d, 0, none⟩)) ∧ u.cell? ⟨l, 1, none⟩ = some (.slice (some ⟨b, 0, none⟩) L.ws.length L.ws.length) ∧ u.cell? ⟨l, 2, none⟩ = some (.int .i64 (L.dur : Int)) ∧ u.frozen? ⟨l, 2, none⟩ = false) := fun u hu => by
    have hlu := hu.trans hG.top
    exact ⟨by rw [cell_of hlu]; rfl, by rw [cell_of hlu]; rfl, by rw [cell_of hlu]; rfl, frozen_of hlu _⟩
  have HL : Hid (∀ u, Below w.heap.size w u → u.heap[l]? = w.heap[l]?) := fun u hu => hu.block l (lt_of hG.top)
  have HV : Hid (∀ (u : World) (j : Nat), Below w.heap.size w u → j < L.ws.length → ∃ a m, ∃ lst : Nat, u.cell? ⟨b, j * 2, none⟩ = some (.slice a 0 m) ∧ u.cell? ⟨b, j * 2 + 1, none⟩ = some (.int .u64 (lst : Int))) := fun u j hu hj => by
    have hv : vs[j]? = some (vs[j]'(by rw [hG.len]; exact hj)) := List.getElem?_eq_getElem _
    have hw : L.ws[j]? = some L.ws[j] := List.getElem?_eq_getElem _
    obtain ⟨c0, c1⟩ := hG.wk hv hw
    obtain ⟨a, m, e⟩ := row_shapeJ (hG.own j _ _ hv hw)
    have he0 := hall _ (List.getElem_mem hj)
    rw [he0] at e
    obtain ⟨cur, hcur, _⟩ := hG.row
    refine ⟨a, m, L.ws[j].2, ?_, ?_⟩
    · rw [hu.cell (p := ⟨b, j * 2, none⟩) (lt_of hcur), c0, e]
      rfl
    · rw [hu.cell (p := ⟨b, j * 2 + 1, none⟩) (lt_of hcur), c1]
  have HRf : Hid (∀ z u, Calls Tryz.prog 55 #[.bool false, .int .i64 z] u fun r w' => r = .returned (.tuple #[]) ∧ u = w') := fun z u => (refuse_no z u).mono fun _ _ h => ⟨h.1, h.2.symm⟩
  obtain ⟨Lg2, hLg2⟩ : ∃ X, ({ L with dur := ep } : Lg) = X := ⟨_, rfl⟩
  rw [hLg2] at HSt ⊢
  obtain ⟨N, hN⟩ : ∃ N, L.ws.length = N := ⟨_, rfl⟩
  have hN16 : N ≤ 16 := by rw [← hN]; exact hG.few.1
  obtain ⟨D, hDd⟩ : ∃ D, L.dur = D := ⟨_, rfl⟩
  rw [hN] at HC HV
  rw [hDd] at HC he
  obtain ⟨q0, q1, q2, q3⟩ := HC.out w rfl
  have c1 : decide ((ep : Int) ≤ (D : Int)) = false := decide_eq_false (by omega)
  have c2 : ¬ (ep : Int) ≤ (D : Int) := by omega
  have c3 : decide ((2147483648 : Int) < (ep : Int)) = false := decide_eq_false (by omega)
  have c4 : decide (ep ≤ D) = false := decide_eq_false (by omega)
  have c5 : decide (2147483648 < ep) = false := decide_eq_false (by omega)
  have c6 : ¬ (2147483648 : Int) < (ep : Int) := by omega
  clear hD hG hB hAB hAF hBF hFAB h h1 h2 hs2 hLg2 hN hDd hFr hfs hall he he2
  go_enter Tryz.func41, Tryz.ntmps41
  go_wp2_with (go_at_call 55; (with_reducible refine (HRf.out _ _).mono ?_); rintro e w4 ⟨rfl, rfl⟩)
  clear q0 q1 q2 q3
  go_loopw [22] (fun i wr => ∃ j : Nat, j ≤ N ∧ i = .int .i64 j ∧ Hid (Below w.heap.size w wr)) (fun i _ => N - (intOf i).toNat)
  case atStart => exact ⟨0, Nat.zero_le _, rfl, Below.refl _ _⟩
  case round =>
    obtain ⟨j, hj, rfl, HB⟩ := hrel
    by_cases hlt : j < N
    · have hlI : (j : Int) < (N : Int) := by omega
      obtain ⟨a, m, lst, c7, c8⟩ := HV.out wr j HB.out hlt
      go_wp2_with (go_at_call 55; (with_reducible refine (HRf.out _ _).mono ?_); rintro e w4 ⟨rfl, rfl⟩)
      exact ⟨⟨j + 1, by omega, by go_num, HB.out.alloc HB.out.size _⟩, by simp [intOf]; omega⟩
    · obtain rfl : j = N := by omega
      have hlI : ¬ (j : Int) < (j : Int) := by omega
      obtain ⟨q0, q1, q2, q3⟩ := HC.out wr (HL.out wr HB.out)
      have HWr2 : Hid (∀ u, Below wr.heap.size wr u → Calls Tryz.prog 67 #[.pointer (some ⟨d, 0, none⟩), .string ⟨#[101, 112, 111, 99, 104]⟩, .string Fr] u fun e w' => e = .returned (.tuple #[]) ∧ w'.heap[l]? = w.heap[l]? ∧ Hid (Goes (LD t k l d s2 L) w w' F)) := fun u hu => HWr.out u (HB.out.trans (hu.mono HB.out.size))
      have HMk2 : Hid (∀ u, Below wr.heap.size wr u → Calls Tryz.prog 70 #[.int .i64 (ep : Int)] u fun e w' => e = .returned (.string Fr) ∧ w'.cell? ⟨l, 0, none⟩ = some (.pointer (some ⟨d, 0, none⟩)) ∧ Below u.heap.size u w' ∧ Below wr.heap.size wr w') := fun u hu => (HMk.out u).mono fun e w' ⟨e1, e2⟩ => ⟨e1, (HC.out w' (HL.out w' (HB.out.trans ((hu.trans (e2.mono hu.size)).mono HB.out.size)))).1, e2, hu.trans (e2.mono hu.size)⟩
      clear HWr HV
      go_wp2_with fail
      go_region_held3 (fun u => u.cell? ⟨l, 0, none⟩ = some (.pointer (some ⟨d, 0, none⟩))) (go_keep)
        (first
          | (go_at_call 70; (with_reducible refine (HMk2.out _ (by go_grown)).mono ?_); rintro e w3 ⟨rfl, p3, hb3, hb4⟩)
          | (go_at_call 67; (with_reducible refine (HWr2.out _ (by first | assumption | go_grown)).mono ?_); rintro e w4 ⟨rfl, hl4, HG4⟩; obtain ⟨p0, p1, p2, p3⟩ := HC.out w4 hl4))
      obtain ⟨F4, I4, t4, n4⟩ := id HG4.out
      have HG6 : Hid (Goes (LD t k l d s2 Lg2) w (w4.setCell ⟨l, 2, none⟩ (.int .i64 (ep : Int))) F) := (HSt.out w4 F4 I4).step t4 n4
      clear I4 t4 n4 HG4 HSt q0 q1 q2 q3 HC HL
      go_wp2_with fail
      go_end0
      exact ⟨rfl, HG6.out⟩
end Go.Proofs.YtigegdelhpdlhaaGreatDoor

/- Layer 18: mark while an entry of the epoch waits. -/
namespace Go.Proofs.YtigegdelhpdlhaaGreatDoor
open Go.RowKit QP

set_option maxRecDepth 100000 in
set_option maxHeartbeats 4000000 in
theorem jmark_late (t k : ByteArray) (l d ep : Nat) (L : Lg) (w : World) (F : Nat → Prop) (h : LogI t k l d L w F) (he : L.dur < ep) (he2 : ep ≤ 2147483648) (J : Nat) (hJ : J < L.ws.length) (hall : ∀ j, (hj : j < J) → (L.ws[j]'(by omega)).1 = []) (p : Nat × Nat) (r : List (Nat × Nat)) (hp : L.ws[J].1 = p :: r) (hpe : p.1 / 8388608 ≤ ep) :
    Calls Tryz.prog 41 #[.pointer (some ⟨l, 0, none⟩), .int .i64 (ep : Int)] w fun e w' => e = .panicked (mis 180) ∧ Below w.heap.size w w' := by
  obtain ⟨b, vs, hG, hB⟩ := h
  have HC : Hid (∀ u : World, u.heap[l]? = w.heap[l]? → u.cell? ⟨l, 0, none⟩ = some (.pointer (some ⟨d, 0, none⟩)) ∧ u.cell? ⟨l, 1, none⟩ = some (.slice (some ⟨b, 0, none⟩) L.ws.length L.ws.length) ∧ u.cell? ⟨l, 2, none⟩ = some (.int .i64 (L.dur : Int)) ∧ u.frozen? ⟨l, 2, none⟩ = false) := fun u hu => by
    have hlu := hu.trans hG.top
    exact ⟨by rw [cell_of hlu]; rfl, by rw [cell_of hlu]; rfl, by rw [cell_of hlu]; rfl, frozen_of hlu _⟩
  have HV : Hid (∀ (u : World) (j : Nat), Below w.heap.size w u → j < J → ∃ a m, ∃ lst : Nat, u.cell? ⟨b, j * 2, none⟩ = some (.slice a 0 m) ∧ u.cell? ⟨b, j * 2 + 1, none⟩ = some (.int .u64 (lst : Int))) := fun u j hu hj => by
    have hv : vs[j]? = some (vs[j]'(by rw [hG.len]; omega)) := List.getElem?_eq_getElem _
    have hw : L.ws[j]? = some (L.ws[j]'(by omega)) := List.getElem?_eq_getElem _
    obtain ⟨c0, c1⟩ := hG.wk hv hw
    obtain ⟨a, m, e⟩ := row_shapeJ (hG.own j _ _ hv hw)
    have he0 := hall j hj
    rw [he0] at e
    obtain ⟨cur, hcur, _⟩ := hG.row
    refine ⟨a, m, (L.ws[j]'(by omega)).2, ?_, ?_⟩
    · rw [hu.cell (p := ⟨b, j * 2, none⟩) (lt_of hcur), c0, e]
      rfl
    · rw [hu.cell (p := ⟨b, j * 2 + 1, none⟩) (lt_of hcur), c1]
  have HJ : Hid (∃ g n m : Nat, ∃ lst : Nat, 0 < n ∧ n ≤ m ∧ m ≤ 9223372036854775807 ∧ ∀ u, Below w.heap.size w u → u.cell? ⟨b, J * 2, none⟩ = some (.slice (some ⟨g, 0, none⟩) n m) ∧ u.cell? ⟨b, J * 2 + 1, none⟩ = some (.int .u64 (lst : Int)) ∧ u.cell? ⟨g, 0, none⟩ = some (.int .i64 ((p.1 / 8388608 : Nat) : Int)) ∧ ∀ O, (u.alloc O).cell? ⟨g, 0, none⟩ = some (.int .i64 ((p.1 / 8388608 : Nat) : Int))) := by
    have hv : vs[J]? = some (vs[J]'(by rw [hG.len]; omega)) := List.getElem?_eq_getElem _
    have hw : L.ws[J]? = some L.ws[J] := List.getElem?_eq_getElem _
    obtain ⟨c0, c1⟩ := hG.wk hv hw
    have ho := hG.own J _ _ hv hw
    obtain ⟨a, m, e⟩ := row_shapeJ ho
    rw [e] at ho c0
    have hlen : 0 < L.ws[J].1.length := by rw [hp]; exact Nat.succ_pos _
    obtain ⟨g, hg, hm1, hm2⟩ := row_someJ ho hlen
    subst hg
    obtain ⟨cur, hcur, _⟩ := hG.row
    have hx : (flat (enLn t k) L.ws[J].1)[0]? = some (.int .i64 ((p.1 / 8388608 : Nat) : Int)) := by
      rw [hp, flat_cons]
      rfl
    have key : ∀ u, Below w.heap.size w u → u.cell? ⟨g, 0, none⟩ = some (.int .i64 ((p.1 / 8388608 : Nat) : Int)) := fun u hu => by
      have := World.ownsRow.cells (row_kept ho hu) (g := g) rfl 0 _ hx
      rw [Addr.add_lit] at this
      exact this
    exact ⟨g, _, m, L.ws[J].2, hlen, hm1, hm2, fun u hu => ⟨by rw [hu.cell (p := ⟨b, J * 2, none⟩) (lt_of hcur), c0], by rw [hu.cell (p := ⟨b, J * 2 + 1, none⟩) (lt_of hcur), c1], key u hu, fun O => key _ (hu.alloc hu.size O)⟩⟩
  obtain ⟨g, n, m, lst, hn0, hnm, hm, HJ2⟩ := HJ.out
  have HJ3 : Hid (∀ u, Below w.heap.size w u → u.cell? ⟨b, J * 2, none⟩ = some (.slice (some ⟨g, 0, none⟩) n m) ∧ u.cell? ⟨b, J * 2 + 1, none⟩ = some (.int .u64 (lst : Int)) ∧ u.cell? ⟨g, 0, none⟩ = some (.int .i64 ((p.1 / 8388608 : Nat) : Int)) ∧ ∀ O, (u.alloc O).cell? ⟨g, 0, none⟩ = some (.int .i64 ((p.1 / 8388608 : Nat) : Int))) := HJ2
  have HL : Hid (∀ u, Below w.heap.size w u → u.heap[l]? = w.heap[l]?) := fun u hu => hu.block l (lt_of hG.top)
  have HRf : Hid (∀ z u, Calls Tryz.prog 55 #[.bool false, .int .i64 z] u fun r w' => r = .returned (.tuple #[]) ∧ u = w') := fun z u => (refuse_no z u).mono fun _ _ h => ⟨h.1, h.2.symm⟩
  have HRy : Hid (∀ z u, Calls Tryz.prog 55 #[.bool true, .int .i64 z] u fun r w' => r = .panicked (mis z) ∧ u = w') := fun z u => (refuse_yes z u).mono fun _ _ h => ⟨h.1, h.2.symm⟩
  obtain ⟨N, hN⟩ : ∃ N, L.ws.length = N := ⟨_, rfl⟩
  have hN16 : N ≤ 16 := by rw [← hN]; exact hG.few.1
  obtain ⟨D, hDd⟩ : ∃ D, L.dur = D := ⟨_, rfl⟩
  obtain ⟨Ep, hEp⟩ : ∃ E, p.1 / 8388608 = E := ⟨_, rfl⟩
  rw [hEp] at HJ3 hpe
  rw [hN] at HC hJ
  rw [hDd] at HC he
  obtain ⟨q0, q1, q2, q3⟩ := HC.out w rfl
  have c1 : decide ((ep : Int) ≤ (D : Int)) = false := decide_eq_false (by omega)
  have c2 : ¬ (ep : Int) ≤ (D : Int) := by omega
  have c3 : decide ((2147483648 : Int) < (ep : Int)) = false := decide_eq_false (by omega)
  have c4 : decide (ep ≤ D) = false := decide_eq_false (by omega)
  have c5 : decide (2147483648 < ep) = false := decide_eq_false (by omega)
  have c6 : ¬ (2147483648 : Int) < (ep : Int) := by omega
  have e1 : (Ep : Int) ≤ (ep : Int) := by omega
  have e2 : (0 : Int) < (n : Int) := by omega
  clear hG hB hN hDd hall he he2 hp hEp HJ HJ2
  go_enter Tryz.func41, Tryz.ntmps41
  go_wp2_with (go_at_call 55; (with_reducible refine (HRf.out _ _).mono ?_); rintro e w4 ⟨rfl, rfl⟩)
  clear q0 q1 q2 q3
  go_loopw [22] (fun i wr => ∃ j : Nat, j ≤ J ∧ i = .int .i64 j ∧ Hid (Below w.heap.size w wr)) (fun i _ => N - (intOf i).toNat)
  case atStart => exact ⟨0, Nat.zero_le _, rfl, Below.refl _ _⟩
  case round =>
    obtain ⟨j, hj, rfl, HB⟩ := hrel
    have hlI : (j : Int) < (N : Int) := by omega
    by_cases hlt : j < J
    · obtain ⟨a, m, lst, c7, c8⟩ := HV.out wr j HB.out hlt
      go_wp2_with (go_at_call 55; (with_reducible refine (HRf.out _ _).mono ?_); rintro e w4 ⟨rfl, rfl⟩)
      exact ⟨⟨j + 1, by omega, by go_num, HB.out.alloc HB.out.size _⟩, by simp [intOf]; omega⟩
    · obtain rfl : j = J := by omega
      obtain ⟨c7, c8, c9, c10⟩ := HJ3.out wr HB.out
      clear HV HJ3
      go_wp2_with fail
      refine (HRy.out _ _).mono ?_
      rintro e w5 ⟨rfl, rfl⟩
      exact ⟨rfl, rfl, HB.out.alloc HB.out.size _⟩
end Go.Proofs.YtigegdelhpdlhaaGreatDoor

/- Layer 18: a log and its disk under the calls. -/
namespace Go.Proofs.YtigegdelhpdlhaaGreatDoor
open Go.RowKit QP

section
variable {t k : ByteArray} {l d : Nat} {s : Dk.Dsk} {L L' : Lg} {w w' : World} {F : Nat → Prop}
theorem LD.onLog {f : FuncId} {args : Array Value} {E : Ending} (h : LD t k l d s L w F) (hk : ∀ B, LogI t k l d L w B → Calls Tryz.prog f args w fun e w' => e = E ∧ Goes (LogI t k l d L') w w' B) :
    Calls Tryz.prog f args w fun e w' => e = E ∧ Goes (LD t k l d s L') w w' F := by
  obtain ⟨A, B, hD, hL, hAB, hAF, hBF, _⟩ := h
  exact (hk B hL).mono fun e w' ⟨e1, h1⟩ => ⟨e1, (Sep.goL (DiskI.res d s) hD (fun j hb ha => hAB j ha hb) hBF hAF h1).swap⟩
theorem LD.below (h : LD t k l d s L w F) (hb : Below w.heap.size w w') : LD t k l d s L w' F := (LD.res t k l d s L).kept (S := fun _ => False) h (Turn.ofBelow _ hb) (fun _ _ h => h)
theorem LD.goBelow (h : LD t k l d s L w F) (hb : Below w.heap.size w w') : Goes (LD t k l d s L) w w' F := ⟨F, h.below hb, Turn.ofBelow _ hb, fun _ h => Or.inl h⟩
theorem LD.low (h : LD t k l d s L w F) : ∀ i, F i → i < w.heap.size := (LD.res t k l d s L).lt h

/-- Add -/
theorem cAdd_ok (h : LD t k l d s L w F) (i T n g x : Nat) (wk : Wk) (hwk : L.ws[i]? = some wk) (hwl : wk.1.length ≤ 900) (hT : TidOk T) (hg : w.heap[g]? = some (boxJ t k x)) (hx : OneAt w x 2 (n : Int) ByteArray.empty) (hn : n < 9223372036854775808) (ht : t.size ≤ 100) (hk : k.size ≤ 100) (hlast : wk.2 < T) (hdur : L.dur < T / 8388608) :
    Calls Tryz.prog 15 #[.pointer (some ⟨l, 0, none⟩), .int .i64 (i : Int), .agg #[.int .u64 (T : Int), .slice (some ⟨g, 0, none⟩) 1 1]] w fun e w' => e = .returned (.int .i64 0) ∧ Goes (LD t k l d s { L with ws := L.ws.set i (wk.1 ++ [(T, n)], T) }) w w' F :=
  jAdd_ok (LD.res t k l d s _) l i T g w h.low fun u hu => (h.below hu).onLog fun B hL => jadd_i t k l d i wk L u B T n g x hL hwk hwl hT ((hu.block _ (lt_of hg)).trans hg) (hx.below hu) hn ht hk hlast hdur
theorem cAdd_old (h : LD t k l d s L w F) (i T n g x : Nat) (wk : Wk) (hwk : L.ws[i]? = some wk) (hT : TidOk T) (hg : w.heap[g]? = some (boxJ t k x)) (hx : OneAt w x 2 (n : Int) ByteArray.empty) (hn : n < 9223372036854775808) (ht : t.size ≤ 100) (hk : k.size ≤ 100) (hlast : wk.2 < T) (hdur : T / 8388608 ≤ L.dur) :
    Calls Tryz.prog 15 #[.pointer (some ⟨l, 0, none⟩), .int .i64 (i : Int), .agg #[.int .u64 (T : Int), .slice (some ⟨g, 0, none⟩) 1 1]] w fun e w' => e = .returned (.int .i64 111) ∧ Goes (LD t k l d s L) w w' F :=
  jAdd_err 111 (LD.res t k l d s _) l i T g w h.low fun u hu => by
    have hu' := h.below hu
    obtain ⟨A, B, hD, ⟨b, vs, hG, hB⟩, hAB, hAF, hBF, _⟩ := id hu'
    have hwi : i < L.ws.length := (List.getElem?_eq_some_iff.1 hwk).1
    have hv : vs[i]? = some (vs[i]'(by rw [hG.len]; exact hwi)) := List.getElem?_eq_getElem _
    obtain ⟨c0, c1⟩ := hG.wk hv hwk
    obtain ⟨cur, hcur, _⟩ := hG.row
    exact (jaddOld_walk t k l d b i L.ws.length _ wk (L.dur : Int) (L.gen : Int) u T n g x hG.top hwi ⟨cur, hcur⟩ c0 c1 (hG.own i _ wk hv hwk) hT ((hu.block _ (lt_of hg)).trans hg) (hx.below hu) hn ht hk hlast (by omega)).mono fun e w' ⟨e1, e2⟩ => ⟨e1, hu'.goBelow e2⟩
/-- Flush -/
theorem cFlush (h : LD t k l d s L w F) {LF : List UInt8 → List (Nat × Nat)} {Es : List Nat} (q : QDisk s t k LF Es) (i : Nat) (wk : Wk) (hwk : L.ws[i]? = some wk) (hi : i < 10) (hg : L.gen < 100) (ht : t.size ≤ 100) (hk : k.size ≤ 100) (hl : (LF (logB i L.gen).data.toList).length + wk.1.length ≤ 1000) (hn : s.fs.length < 64) :
    Calls Tryz.prog 16 #[.pointer (some ⟨l, 0, none⟩), .int .i64 (i : Int)] w fun e w' => e = .returned (.int .i64 0) ∧ ∃ s2, QDisk s2 t k (updF LF (logB i L.gen).data.toList (LF (logB i L.gen).data.toList ++ wk.1)) Es ∧ s2.fs.length ≤ s.fs.length + 1 ∧ Dk.keysL s2.fs = (if wk.1 = [] then Dk.keysL s.fs else Dk.insN (logB i L.gen).data.toList (Dk.keysL s.fs)) ∧ Goes (LD t k l d s2 { L with ws := L.ws.set i ([], wk.2) }) w w' F := by
  by_cases h0 : wk.1 = []
  · have e1 : updF LF (logB i L.gen).data.toList (LF (logB i L.gen).data.toList ++ wk.1) = LF := by
      funext q
      unfold updF
      split
      · next e => rw [h0, List.append_nil, e]
      · rfl
    have e2 : L.ws.set i ([], wk.2) = L.ws := by
      obtain ⟨hi, hv⟩ := List.getElem?_eq_some_iff.1 hwk
      rw [show (([], wk.2) : Wk) = L.ws[i] by rw [hv, ← h0]]
      exact List.set_getElem_self _
    rw [e1, e2]
    refine (jFlush_ok (LD.res t k l d s L) l i w h.low fun u hu => ?_).mono fun e w' ⟨h1, h2⟩ => ⟨h1, s, q, by omega, by rw [if_pos h0], h2⟩
    have hwk' : L.ws[i]? = some ([], wk.2) := by rw [hwk, ← h0]
    exact (jflush_none t k l d i s L wk.2 u F (h.below hu) hwk').mono fun e w' ⟨h1, h2⟩ => ⟨h1, by rw [← h2]; exact Goes.stay (h.below hu)⟩
  · obtain ⟨a1, a2, a3, a4, a5⟩ := q.log hi hg wk.1 hl ht hk hn
    exact (jFlush_ok (LD.res t k l d _ _) l i w h.low fun u hu => jflush_some t k l d i s L wk u F (h.below hu) hwk h0 hi hg ht hk a1 a2).mono fun e w' ⟨h1, h2⟩ => ⟨h1, _, a3, a4, by rw [if_neg h0]; exact a5, h2⟩
/-- Mark -/
theorem cMark (h : LD t k l d s L w F) {LF : List UInt8 → List (Nat × Nat)} {Es : List Nat} (q : QDisk s t k LF Es) (ep : Nat) (he : L.dur < ep) (he2 : ep ≤ 2147483648) (hall : ∀ wk ∈ L.ws, wk.1 = []) (hl : Es.length ≤ 1000) (hn : s.fs.length < 64) :
    Calls Tryz.prog 17 #[.pointer (some ⟨l, 0, none⟩), .int .i64 (ep : Int)] w fun e w' => e = .returned (.int .i64 0) ∧ ∃ s2, QDisk s2 t k LF (Es ++ [ep]) ∧ s2.fs.length ≤ s.fs.length + 1 ∧ Dk.keysL s2.fs = Dk.insN epochB.data.toList (Dk.keysL s.fs) ∧ Goes (LD t k l d s2 { L with dur := ep }) w w' F := by
  obtain ⟨a1, a2, a3, a4, a5⟩ := q.mark ep hl hn
  exact (jMark_ok (LD.res t k l d _ _) l ep w h.low fun u hu => jmark_any t k l d ep s L u F (h.below hu) he he2 hall a1 a2).mono fun e w' ⟨h1, h2⟩ => ⟨h1, _, a3, a4, a5, h2⟩
theorem cMark_late (h : LD t k l d s L w F) (ep : Nat) (he : L.dur < ep) (he2 : ep ≤ 2147483648) (J : Nat) (hJ : J < L.ws.length) (hall : ∀ j, (hj : j < J) → (L.ws[j]'(by omega)).1 = []) (p : Nat × Nat) (r : List (Nat × Nat)) (hp : L.ws[J].1 = p :: r) (hpe : p.1 / 8388608 ≤ ep) :
    Calls Tryz.prog 17 #[.pointer (some ⟨l, 0, none⟩), .int .i64 (ep : Int)] w fun e w' => e = .returned (.int .i64 180) ∧ Goes (LD t k l d s L) w w' F :=
  jMark_err 180 (LD.res t k l d s _) l ep w h.low fun u hu => by
    have hu' := h.below hu
    obtain ⟨A, B, hD, hL, hAB, hAF, hBF, _⟩ := id hu'
    exact (jmark_late t k l d ep L u B hL he he2 J hJ hall p r hp hpe).mono fun e w' ⟨e1, e2⟩ => ⟨e1, hu'.goBelow e2⟩
end
end Go.Proofs.YtigegdelhpdlhaaGreatDoor
