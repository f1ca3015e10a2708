/- The program's pick: a row's values in columns. -/
import Derived.Test.YtfddmibaojfalaaGreatXAgnJ
namespace Go.Proofs.YtfddmibaojfalaaGreat
open Go.RowKit

theorem infoV_parts : ∃ i, Tryz.prog.info? 36 = some i ∧ i.zero = some (vagg 0 0 ⟨#[]⟩) ∧ i.size = 4 ∧ i.bytes = 48 := info_parts (by kernel_rfl)
theorem enV_length (v : V) : (enV v).length = 4 := rfl
/-- a block of values -/
def VAt (w : World) (g : Nat) (L : List V) : Prop := w.heap[g]? = some (.cells (flat enV L).toArray 36 (0, 0))
theorem VAt.slice {w : World} {g : Nat} {L : List V} (h : VAt w g L) (hl : L.length ≤ maxLen) : SliceAt w (.slice (some ⟨g, 0, none⟩) L.length L.length) 4 enV L :=
  sliceAt_flat (en := enV) (n := 4) (L := L) (cap := L.length) enV_length h (by rw [List.take_of_length_le]; rw [flat_length enV_length, Nat.mul_comm]; exact Nat.le_refl _) (Nat.le_refl _) hl
theorem VAt.below {w u : World} {g : Nat} {L : List V} (h : VAt w g L) (hu : Below w.heap.size w u) : VAt u g L := (hu.block g (lt_of h)).trans h
theorem VAt.cells {w : World} {g : Nat} {L : List V} (h : VAt w g L) {i : Nat} {y : V} (hy : L[i]? = some y) : w.cell? ⟨g, i * 4, none⟩ = some (.int .i64 y.k) ∧ w.cell? ⟨g, i * 4 + 1, none⟩ = some (.int .i64 y.n) ∧ w.cell? ⟨g, i * 4 + 2, none⟩ = some (.complex .f64 0 0) ∧ w.cell? ⟨g, i * 4 + 3, none⟩ = some (.string y.s) := by
  obtain ⟨hi, rfl⟩ := List.getElem?_eq_some_iff.1 hy
  have k : ∀ f, f < 4 → w.cell? ⟨g, i * 4 + f, none⟩ = (enV L[i])[f]? := fun f hf => by
    rw [cell_of h, List.getElem?_toArray, Nat.mul_comm i 4]
    exact flat_get enV_length L i hi f hf
  exact ⟨k 0 (by omega), k 1 (by omega), k 2 (by omega), k 3 (by omega)⟩
theorem VAt.set1 {w : World} {g : Nat} {L : List V} (h : VAt w g L) {i f : Nat} (hi : i < L.length) (hf : f < 4) (u : Value) (d : V) (e : (enV L[i]).set f u = enV d) : VAt (w.setCell ⟨g, i * 4 + f, none⟩ u) g (L.set i d) := by
  have := heap_setCell_same h (i * 4 + f) u
  rw [List.setIfInBounds_toArray, Nat.mul_comm i 4, flat_set enV_length L i hi f u d hf e] at this
  rw [Nat.mul_comm i 4]
  exact this
abbrev setV (w : World) (g o : Nat) (k n : Int) (s : ByteArray) : World := (((w.setCell ⟨g, o, none⟩ (.int .i64 k)).setCell ⟨g, o + 1, none⟩ (.int .i64 n)).setCell ⟨g, o + 2, none⟩ (.complex .f64 0 0)).setCell ⟨g, o + 3, none⟩ (.string s)
theorem VAt.set {w : World} {g : Nat} {L : List V} (h : VAt w g L) {i : Nat} (hi : i < L.length) (k n : Int) (s : ByteArray) : VAt (setV w g (i * 4) k n s) g (L.set i ⟨k, n, s⟩) := by
  have h0 := h.set1 (f := 0) hi (by omega) (.int .i64 k) ⟨k, L[i].n, L[i].s⟩ rfl
  have h1 := h0.set1 (i := i) (f := 1) (by simpa using hi) (by omega) (.int .i64 n) ⟨k, n, L[i].s⟩ (by rw [List.getElem_set_self]; rfl)
  rw [List.set_set] at h1
  have h2 := h1.set1 (i := i) (f := 2) (by simpa using hi) (by omega) (.complex .f64 0 0) ⟨k, n, L[i].s⟩ (by rw [List.getElem_set_self]; rfl)
  rw [List.set_set] at h2
  have h3 := h2.set1 (i := i) (f := 3) (by simpa using hi) (by omega) (.string s) ⟨k, n, s⟩ (by rw [List.getElem_set_self]; rfl)
  rw [List.set_set] at h3
  exact h3
theorem setV_turn (w : World) (g o : Nat) (k n : Int) (s : ByteArray) : Turn (fun i => i = g) w (setV w g o k n s) :=
  ((((Turn.setCell (S := fun i => i = g) w ⟨g, o, none⟩ _ rfl).trans (Turn.setCell _ ⟨g, o + 1, none⟩ _ rfl)).trans (Turn.setCell _ ⟨g, o + 2, none⟩ _ rfl)).trans (Turn.setCell _ ⟨g, o + 3, none⟩ _ rfl))
theorem turn_new {w u u' : World} {g : Nat} (h : Below w.heap.size w u) (hg : w.heap.size ≤ g) (t : Turn (fun i => i = g) u u') : Below w.heap.size w u' :=
  h.trans ((t.mono (fun i e => by rw [e]; exact hg)).toBelow h.size)

/-- what pick has put behind i columns -/
def pickI (row : List V) (cols : List Nat) (i : Nat) : List V := pickV row (cols.take i) ++ List.replicate (cols.length - i) nullV
theorem pickI_length (row : List V) (cols : List Nat) {i : Nat} (h : i ≤ cols.length) : (pickI row cols i).length = cols.length := by simp [pickI, pickV]; omega
theorem pickI_zero (row : List V) (cols : List Nat) : pickI row cols 0 = List.replicate cols.length nullV := by simp [pickI, pickV]
theorem pickI_all (row : List V) (cols : List Nat) : pickI row cols cols.length = pickV row cols := by simp [pickI]
theorem pickI_next {row : List V} {cols : List Nat} {i c : Nat} {x : V} (hc : cols[i]? = some c) (hx : row[c]? = some x) : (pickI row cols i).set i x = pickI row cols (i + 1) := by
  have hi := (List.getElem?_eq_some_iff.1 hc).1
  unfold pickI pickV
  rw [List.set_append_right _ _ (by simp; omega), List.length_map, List.length_take, Nat.min_eq_left (Nat.le_of_lt hi), Nat.sub_self, show cols.length - i = (cols.length - (i + 1)) + 1 by omega, List.replicate_succ, List.set_cons_zero, List.take_add_one, hc, List.map_append, List.append_assoc]
  simp [at_, hx]

def PickR (row : List V) (cols : List Nat) (w : World) (e : Ending) (w' : World) : Prop := ∃ g, e = .returned (.slice (some ⟨g, 0, none⟩) cols.length cols.length) ∧ SliceAt w' (.slice (some ⟨g, 0, none⟩) cols.length cols.length) 4 enV (pickV row cols) ∧ Below w.heap.size w w'

set_option linter.unusedSimpArgs false in
set_option maxRecDepth 100000 in
set_option maxHeartbeats 2000000 in
theorem pick_any (cv rowv : Value) (cols : List Nat) (row : List V) (w w0 : World) (hb0 : Below w0.heap.size w0 w) (cs : SliceAt w0 cv 1 enN cols) (hr : SliceAt w0 rowv 4 enV row) (hc : ∀ c ∈ cols, c < row.length) (hl : cols.length ≤ 1000) :
    Calls Tryz.prog 46 #[rowv, cv] w (PickR row cols w) := by
  obtain ⟨ca, cc, rfl, s1, s2, s3⟩ := cs.nums
  obtain ⟨ra, rc, rfl, t1, t2, t3⟩ := hr.vals
  have HU : Hid (∀ u, Below w.heap.size w u → Below w0.heap.size w0 u) := fun u hu => hb0.trans (hu.mono hb0.size)
  have HCs : Hid (∀ u, Below w.heap.size w u → ∀ (i y : Nat), cols[i]? = some y → ∃ b off, ca = some ⟨b, off, none⟩ ∧ b < u.heap.size ∧ u.cell? ⟨b, off + i, none⟩ = some (.int .i64 (y : Int))) := fun u hu => s3 u (HU.out u hu)
  have HR : Hid (∀ u, Below w.heap.size w u → ∀ (i : Nat) (y : V), row[i]? = some y → ∃ b off, ra = some ⟨b, off, none⟩ ∧ b < u.heap.size ∧ u.cell? ⟨b, off + i * 4, none⟩ = some (.int .i64 y.k) ∧ u.cell? ⟨b, off + i * 4 + 1, none⟩ = some (.int .i64 y.n) ∧ u.cell? ⟨b, off + i * 4 + 2, none⟩ = some (.complex .f64 0 0) ∧ u.cell? ⟨b, off + i * 4 + 3, none⟩ = some (.string y.s)) := fun u hu => t3 u (HU.out u hu)
  unfold PickR
  have HAll := pickI_all row cols
  have HZ := pickI_zero row cols
  have HPL : Hid (∀ i, i ≤ cols.length → (pickI row cols i).length = cols.length) := fun i => pickI_length row cols
  obtain ⟨CN, hCN⟩ : ∃ N, cols.length = N := ⟨_, rfl⟩
  obtain ⟨RN, hRN⟩ : ∃ N, row.length = N := ⟨_, rfl⟩
  have HLc : Hid (cols.length = CN) := hCN
  have HLr : Hid (row.length = RN) := hRN
  have HIn : Hid (∀ c ∈ cols, c < RN) := fun c h => hRN ▸ hc c h
  rw [hCN] at HAll HZ HPL
  have HEnd : Hid (pickI row cols CN = pickV row cols) := HAll
  have HZero : Hid (pickI row cols 0 = List.replicate CN nullV) := HZ
  unfold maxLen at s2 t2
  rw [hCN] at s1 hl ⊢
  rw [hRN] at t1 ⊢
  have hmk := fun u => make_rows (en := enV) (m := 4) enV_length (by omega) nullV 37 36 48 (vagg 0 0 ⟨#[]⟩) rfl Tryz.underlying37 infoV_parts CN (by omega) (by omega) u
  have hsl := @store_law
  clear cs hr s3 t3 hCN hRN hb0 hc HAll HZ
  obtain ⟨g, hg⟩ : ∃ g, w.heap.size = g := ⟨_, rfl⟩
  have HG : Hid (w.heap.size = g) := hg
  go_enter Tryz.func46, Tryz.ntmps46
  go_wp2_with fail
  clear hmk
  go_loopw [13] (fun v wr => ∃ i : Nat, i ≤ CN ∧ v = .int .i64 i ∧ Hid (Below w.heap.size w wr) ∧ Hid (VAt wr g (pickI row cols i))) (fun v _ => CN - (intOf v).toNat)
  case atStart =>
    refine ⟨0, Nat.zero_le _, rfl, (Below.refl _ _).alloc (Nat.le_refl _) _, ?_⟩
    show VAt _ _ _
    rw [HZero.out, ← HG.out]
    exact heap_new w _
  case round =>
    obtain ⟨i, hi, rfl, HB, HV⟩ := hrel
    by_cases hlt : i < CN
    · obtain ⟨c, hcc⟩ : ∃ c, cols[i]? = some c := ⟨_, List.getElem?_eq_getElem (by rw [HLc.out]; omega)⟩
      have hcR : c < RN := HIn.out c (List.mem_of_getElem? hcc)
      obtain ⟨x, hx⟩ : ∃ x, row[c]? = some x := ⟨_, List.getElem?_eq_getElem (by rw [HLr.out]; exact hcR)⟩
      have HN : Hid ((pickI row cols i).set i x = pickI row cols (i + 1)) := pickI_next hcc hx
      obtain ⟨cb, co, rfl, hcl, p0⟩ := HCs.out _ HB.out i c hcc
      obtain ⟨rb, ro, rfl, hrl, r0, r1, r2, r3⟩ := HR.out _ HB.out c x hx
      have hpl : i < (pickI row cols i).length := by rw [HPL.out i hi]; exact hlt
      obtain ⟨x0, x1, x2, x3⟩ := HV.out.cells (List.getElem?_eq_getElem hpl)
      have hfz := frozen_of HV.out
      obtain ⟨k, n, s⟩ := x
      dsimp only at r0 r1 r3
      have hlI : (i : Int) < (CN : Int) := by omega
      have hlR : (c : Int) < (RN : Int) := by omega
      have HV' : Hid (VAt (setV wr g (i * 4) k n s) g (pickI row cols (i + 1))) := by show VAt _ _ _; rw [← HN.out]; exact HV.out.set hpl k n s
      have HB' : Hid (Below w.heap.size w (setV wr g (i * 4) k n s)) := turn_new HB.out (by rw [HG.out]; exact Nat.le_refl _) (setV_turn _ _ _ _ _ _)
      unfold setV at HV' HB'
      clear hcc hx HN
      go_wp2_with fail
      go_roundw
      case rel => exact ⟨i + 1, by omega, by go_num, HB', HV'⟩
      case measure => simp [intOf]; omega
    · obtain rfl : i = CN := by omega
      have hlI : ¬ (i : Int) < (i : Int) := by omega
      go_wp2_with fail
      go_ret
      refine ⟨g, rfl, ?_, by rw [← HG.out]; exact HB.out⟩
      have := HV.out.slice (by rw [HPL.out i (Nat.le_refl _)]; unfold maxLen; omega)
      rw [HPL.out i (Nat.le_refl _), HEnd.out] at this
      exact this

end Go.Proofs.YtfddmibaojfalaaGreat
