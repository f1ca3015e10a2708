/- DiskSwap: for every two texts, every fuse and all draws the call returns true, and each argument reads behind it as it read before. -/
import Derived.Test.YtbiombolpfhdlaaRows
import Derived.Test.YtbiombolpfhdlaaAmong
import Derived.Test.YtbiombolpfhdlaaArgs
namespace Go.Proofs.Ytbiombolpfhdlaa.Swap
open Go.ChangeShapes Go.WideShapes Go.ChangeAt Go.RowKit Go.Joins
open Go.ChangeMaps (open_string shut_string)

def fA (D : List UInt8) : List UInt8 × Dk.Fil := ([97], ⟨D, D.length⟩)
def fB (D : List UInt8) (n : Nat) : List UInt8 × Dk.Fil := ([98], ⟨D, n⟩)

theorem app1 (D : List UInt8) (h : D.length ≤ 262144) : Dk.appendE Dk.blank [97] D = 0 ∧ Dk.appendS Dk.blank [97] D = ⟨[([97], ⟨D, 0⟩)], false, false, 0⟩ := by
  have e : Dk.tooLong Dk.blank [97] D = false := by
    unfold Dk.tooLong
    simp [Dk.blank, Dk.getL, Dk.fileOr]
    omega
  have ok : Dk.okName [97] = true := by decide
  unfold Dk.appendE Dk.appendS
  rw [e, ok]
  exact ⟨rfl, rfl⟩

theorem fuse1 (D : List UInt8) (n : Nat) : Dk.fuseE (n : Int) = 0 ∧ Dk.fuseS ⟨[fA D], false, false, 0⟩ (n : Int) = ⟨[fA D], false, true, n⟩ := by
  have h : ¬ (n : Int) < 0 := by omega
  unfold Dk.fuseE Dk.fuseS
  rw [if_neg h, if_neg h]
  exact ⟨rfl, rfl⟩

theorem long_b (D V : List UInt8) (hV : V.length ≤ 262144) (n : Nat) : Dk.tooLong ⟨[fA D], false, true, n⟩ [98] V = false := by
  unfold Dk.tooLong
  simp [Dk.getL, Dk.fileOr, fA]
  omega

theorem app_b0 (D V : List UInt8) (hV : V.length ≤ 262144) : Dk.appendE ⟨[fA D], false, true, 0⟩ [98] V = 11 ∧ Dk.appendS ⟨[fA D], false, true, 0⟩ [98] V = ⟨[fA D], true, true, 0⟩ := by
  have ok : Dk.okName [98] = true := by decide
  unfold Dk.appendE Dk.appendS
  rw [long_b D V hV, ok]
  exact ⟨rfl, rfl⟩

theorem app_b1 (D V : List UInt8) (hV : V.length ≤ 262144) (n : Nat) : Dk.appendE ⟨[fA D], false, true, n + 1⟩ [98] V = 0 ∧ Dk.appendS ⟨[fA D], false, true, n + 1⟩ [98] V = ⟨[fA D, fB V 0], false, true, n⟩ := by
  have ok : Dk.okName [98] = true := by decide
  unfold Dk.appendE Dk.appendS
  rw [long_b D V hV, ok]
  exact ⟨rfl, rfl⟩

theorem crash0 (D : List UInt8) (ds : List Int) (h : ¬ 4096 < ds.length) (b c : Bool) (n : Nat) : Dk.crashS ⟨[fA D], b, c, n⟩ ds = ⟨[fA D], false, false, 0⟩ := by
  unfold Dk.crashS
  rw [if_neg h]
  simp [Dk.crashL, fA]

/-- a file that is safe, and another behind it -/
theorem crash1 (D V : List UInt8) (k : Nat) (ds : List Int) (h : ¬ 4096 < ds.length) (b c : Bool) (n : Nat) : ∃ f, Dk.crashS ⟨[fA D, fB V k], b, c, n⟩ ds = ⟨[fA D, ([98], f)], false, false, 0⟩ := by
  unfold Dk.crashS
  rw [if_neg h]
  simp only [Dk.crashL, fA, if_true]
  by_cases e : (fB V k).2.data.length = (fB V k).2.safe
  · exact ⟨_, by simp only [e, if_true]; rfl⟩
  · exact ⟨_, by simp only [e, if_false]; rfl⟩

theorem ba_back (a : ByteArray) : (⟨a.data.toList.toArray⟩ : ByteArray) = a := by cases a; simp

section
variable {B : Nat} {w0 : World} {d : Nat}

theorem read_a (a : ByteArray) (r : List (List UInt8 × Dk.Fil)) (w : World) (h : Has B w0 w d ⟨fA a.data.toList :: r, false, false, 0⟩) :
    Calls Try.prog 23 #[.pointer (some ⟨d, 0, none⟩), .string ⟨#[97]⟩] w fun e w' => e = .returned (.tuple #[.string a, .int .i64 0]) ∧ w = w' := by
  have := has_read ⟨#[97]⟩ w h (by decide) (E := 0) (l := a.data.toList) rfl rfl
  rw [ba_back] at this
  exact this
end

section
variable {w u : World} {f : Int} {a : Option Addr} {c : Nat} {ds : List Int} {d : Nat} {s : Dk.Dsk}

/-- the struct that came in, in its box -/
def boxed (w : World) (f : Int) (a : Option Addr) (n c : Nat) : World := w.alloc (.cells #[.int .i64 f, .slice a n c] 48 (0, 0))

theorem box_size (w : World) (f : Int) (a : Option Addr) (n c : Nat) : (boxed w f a n c).heap.size = w.heap.size + 1 := World.size_alloc _ _
theorem box_below (w : World) (f : Int) (a : Option Addr) (n c : Nat) : Below w.heap.size w (boxed w f a n c) := (Below.refl _ _).alloc (Nat.le_refl _) _
theorem box_new (w : World) (f : Int) (a : Option Addr) (n c : Nat) :
    Calls Try.prog 9 #[] (boxed w f a n c) fun e w' => e = .returned (.pointer (some ⟨w.heap.size + 1 + 1, 0, none⟩)) ∧ Has (w.heap.size + 1) (boxed w f a n c) w' (w.heap.size + 1 + 1) Dk.blank := by
  have := has_new (boxed w f a n c)
  rw [box_size] at this
  exact this

theorem box_cells (h : Has (w.heap.size + 1) (boxed w f a ds.length c) u d s) : u.cell? ⟨w.heap.size, 0, none⟩ = some (.int .i64 f) ∧ u.cell? ⟨w.heap.size, 1, none⟩ = some (.slice a ds.length c) := by
  have hb := h.pull
  refine ⟨(hb.cell (p := ⟨w.heap.size, 0, none⟩) (Nat.lt_succ_self _)).trans ?_, (hb.cell (p := ⟨w.heap.size, 1, none⟩) (Nat.lt_succ_self _)).trans ?_⟩
  · unfold boxed; rw [cell_of (heap_new w _)]; rfl
  · unfold boxed; rw [cell_of (heap_new w _)]; rfl

theorem box_draws (h : Has (w.heap.size + 1) (boxed w f a ds.length c) u d s) (hd : DrawsAt w (fun i => w.heap.size ≤ i) (.slice a ds.length c) ds) : DrawsAt u (fun i => w.heap.size + 1 ≤ i) (.slice a ds.length c) ds := by
  have h1 := hd.under (box_below w f a ds.length c)
  have h2 : DrawsAt (boxed w f a ds.length c) (fun i => w.heap.size + 1 ≤ i) (.slice a ds.length c) ds := by
    obtain ⟨a', c', e1, e2, e3, e4, e5⟩ := h1
    refine ⟨a', c', e1, e2, e3, fun hr => ?_, e5⟩
    obtain ⟨b, off, e6, e7, e8, e9⟩ := e4 hr
    exact ⟨b, off, e6, e7, fun hh => e8 (by omega), e9⟩
  exact h2.under h.pull

theorem box_end (h : Has (w.heap.size + 1) (boxed w f a ds.length c) u d s) : Below w.heap.size w u := (box_below w f a ds.length c).trans (h.pull.mono (Nat.le_succ _))
end

set_option maxRecDepth 100000 in
set_option maxHeartbeats 4000000 in
theorem walk_early (a0 a1 : ByteArray) (f : Int) (a : Option Addr) (c : Nat) (ds : List Int) (w0 : a0.size ≤ maxLen) (w1 : a1.size ≤ maxLen) (w : World) (_hcm : c ≤ 9223372036854775807) (_hdc : ds.length ≤ c)
    (h0 : (262144 : Int) < (a0.size : Int) ∨ (262144 : Int) < (a1.size : Int) ∨ (4096 : Int) < (ds.length : Int)) :
    Calls Try.prog 7 #[.string a0, .string a1, .agg #[.int .i64 f, .slice a ds.length c]] w fun e w' => e = .returned (.bool true) ∧ Below w.heap.size w w' := by
  unfold maxLen at w0 w1
  by_cases h1 : (262144 : Int) < (a0.size : Int)
  · clear h0
    go_enter Try.func7, Try.ntmps7
    go_wp2_with fail
    refine (box_new w f a ds.length c).mono ?_
    rintro e u1 ⟨rfl, H1⟩
    go_wp2_with fail
    refine (works_any _).mono ?_
    rintro e u2 ⟨rfl, H2⟩
    have H3 := H1.below H2
    clear H1 H2
    go_wp2_with fail
    go_ret
    exact ⟨rfl, box_end H3⟩
  · by_cases h2 : (262144 : Int) < (a1.size : Int)
    · clear h0
      go_enter Try.func7, Try.ntmps7
      go_wp2_with fail
      refine (box_new w f a ds.length c).mono ?_
      rintro e u1 ⟨rfl, H1⟩
      go_wp2_with fail
      refine (works_any _).mono ?_
      rintro e u2 ⟨rfl, H2⟩
      have H3 := H1.below H2
      clear H1 H2
      go_wp2_with fail
      go_ret
      exact ⟨rfl, box_end H3⟩
    · have h3 : (4096 : Int) < (ds.length : Int) := by omega
      clear h0
      go_enter Try.func7, Try.ntmps7
      go_wp2_with fail
      refine (box_new w f a ds.length c).mono ?_
      rintro e u1 ⟨rfl, H1⟩
      go_wp2_with fail
      refine (works_any _).mono ?_
      rintro e u2 ⟨rfl, H2⟩
      have H3 := H1.below H2
      clear H1 H2
      obtain ⟨c1, c2⟩ := box_cells H3
      go_wp2_with fail
      go_ret
      exact ⟨rfl, box_end H3⟩

set_option maxRecDepth 100000 in
set_option maxHeartbeats 4000000 in
theorem walk_main (a0 a1 : ByteArray) (f : Int) (a : Option Addr) (c : Nat) (ds : List Int) (w0 : a0.size ≤ maxLen) (w1 : a1.size ≤ maxLen) (w : World) (_hcm : c ≤ 9223372036854775807) (_hdc : ds.length ≤ c)
    (h1 : ¬ (262144 : Int) < (a0.size : Int)) (h2 : ¬ (262144 : Int) < (a1.size : Int)) (h3 : ¬ (4096 : Int) < (ds.length : Int)) (hd : DrawsAt w (fun i => w.heap.size ≤ i) (.slice a ds.length c) ds) :
    Calls Try.prog 7 #[.string a0, .string a1, .agg #[.int .i64 f, .slice a ds.length c]] w fun e w' => e = .returned (.bool true) ∧ Below w.heap.size w w' := by
  have W0 : Hid (a0.size ≤ maxLen) := w0
  have W1 : Hid (a1.size ≤ maxLen) := w1
  unfold maxLen at w0 w1
  have HDr : Hid (DrawsAt w (fun i => w.heap.size ≤ i) (.slice a ds.length c) ds) := hd
  have p1 := Int.emod_nonneg f (show (5 : Int) ≠ 0 by omega)
  have p2 := Int.emod_lt_of_pos f (show (0 : Int) < 5 by omega)
  obtain ⟨n, hn⟩ := Int.eq_ofNat_of_zero_le p1
  have A1 : Hid (∀ W, Calls Try.prog 15 #[.int .i64 f, .int .i64 5] W fun e w' => e = .returned (.int .i64 (n : Int)) ∧ W = w') := fun W => by have := among_any f 5 W (by omega) (by omega); rw [hn] at this; exact this
  have hn5 : n < 5 := by omega
  have hD : a0.data.toList.length = a0.size := rfl
  have hV : a1.data.toList.length = a1.size := rfl
  have LD : Hid (a0.data.toList.length ≤ 262144) := by show _ ≤ _; omega
  have LV : Hid (a1.data.toList.length ≤ 262144) := by show _ ≤ _; omega
  have LS : Hid (¬ 4096 < ds.length) := by show ¬ _; omega
  clear hd p1 p2 hn hD hV
  go_enter Try.func7, Try.ntmps7
  go_wp2_with fail
  refine (box_new w f a ds.length c).mono ?_
  rintro e u1 ⟨rfl, H1⟩
  go_wp2_with fail
  refine (works_any _).mono ?_
  rintro e u2 ⟨rfl, H2⟩
  have H3 := H1.below H2
  clear H1 H2
  obtain ⟨c1, c2⟩ := box_cells H3
  go_wp2_with fail
  refine (has_append ⟨#[97]⟩ a0 _ H3 (by decide) W0.out (app1 a0.data.toList LD.out).1 (app1 a0.data.toList LD.out).2).mono ?_
  rintro e u3 ⟨rfl, H4⟩
  clear H3 c1 c2
  go_wp2_with fail
  refine (has_sync ⟨#[97]⟩ _ H4 (by decide) (E := 0) (s' := ⟨[fA a0.data.toList], false, false, 0⟩) rfl rfl).mono ?_
  rintro e u4 ⟨rfl, H5⟩
  clear H4
  obtain ⟨c1, c2⟩ := box_cells H5
  go_wp2_with fail
  refine (A1.out _).mono ?_
  rintro e u5 ⟨rfl, rfl⟩
  go_wp2_with fail
  refine (has_fuse (n : Int) _ H5 (by omega) (fuse1 a0.data.toList n).1 (fuse1 a0.data.toList n).2).mono ?_
  rintro e u6 ⟨rfl, H6⟩
  clear H5 c1 c2
  go_wp2_with fail
  match n, hn5 with
  | 0, _ =>
    refine (has_append ⟨#[98]⟩ a1 _ H6 (by decide) W1.out (app_b0 a0.data.toList a1.data.toList LV.out).1 (app_b0 a0.data.toList a1.data.toList LV.out).2).mono ?_
    rintro e u7 ⟨rfl, H7⟩
    clear H6
    obtain ⟨c1, c2⟩ := box_cells H7
    go_wp2_with fail
    refine (has_crash _ ds _ H7 (box_draws H7 HDr.out) (E := 0) (by unfold Dk.crashE; rw [if_neg LS.out]) (crash0 _ ds LS.out _ _ _)).mono ?_
    rintro e u8 ⟨rfl, H8⟩
    clear H7 c1 c2
    go_wp2_with fail
    refine (read_a a0 [] _ H8).mono ?_
    rintro e u9 ⟨rfl, rfl⟩
    go_wp2_with fail
    go_ret
    exact ⟨rfl, box_end H8⟩
  | 1, _ =>
    refine (has_append ⟨#[98]⟩ a1 _ H6 (by decide) W1.out (app_b1 a0.data.toList a1.data.toList LV.out 0).1 (app_b1 a0.data.toList a1.data.toList LV.out 0).2).mono ?_
    rintro e u7 ⟨rfl, H7⟩
    clear H6
    go_wp2_with fail
    refine (has_sync ⟨#[98]⟩ _ H7 (by decide) (E := 11) (s' := ⟨[fA a0.data.toList, fB a1.data.toList 0], true, true, 0⟩) rfl rfl).mono ?_
    rintro e u8 ⟨rfl, H8⟩
    clear H7
    obtain ⟨c1, c2⟩ := box_cells H8
    obtain ⟨ff, hff⟩ := crash1 a0.data.toList a1.data.toList 0 ds LS.out true true 0
    have Hff : Hid (Dk.crashS ⟨[fA a0.data.toList, fB a1.data.toList 0], true, true, 0⟩ ds = ⟨[fA a0.data.toList, ([98], ff)], false, false, 0⟩) := hff
    clear hff
    go_wp2_with fail
    refine (has_crash _ ds _ H8 (box_draws H8 HDr.out) (E := 0) (by unfold Dk.crashE; rw [if_neg LS.out]) Hff.out).mono ?_
    rintro e u9 ⟨rfl, H9⟩
    clear H8 c1 c2
    go_wp2_with fail
    refine (read_a a0 _ _ H9).mono ?_
    rintro e u10 ⟨rfl, rfl⟩
    go_wp2_with fail
    go_ret
    exact ⟨rfl, box_end H9⟩
  | 2, _ =>
    refine (has_append ⟨#[98]⟩ a1 _ H6 (by decide) W1.out (app_b1 a0.data.toList a1.data.toList LV.out 1).1 (app_b1 a0.data.toList a1.data.toList LV.out 1).2).mono ?_
    rintro e u7 ⟨rfl, H7⟩
    clear H6
    go_wp2_with fail
    refine (has_sync ⟨#[98]⟩ _ H7 (by decide) (E := 0) (s' := ⟨[fA a0.data.toList, fB a1.data.toList a1.data.toList.length], false, true, 0⟩) rfl rfl).mono ?_
    rintro e u8 ⟨rfl, H8⟩
    clear H7
    go_wp2_with fail
    refine (has_rename ⟨#[98]⟩ ⟨#[97]⟩ _ H8 (by decide) (by decide) (E := 11) (s' := ⟨[fA a0.data.toList, fB a1.data.toList a1.data.toList.length], true, true, 0⟩) rfl rfl).mono ?_
    rintro e u9 ⟨rfl, H9⟩
    clear H8
    obtain ⟨c1, c2⟩ := box_cells H9
    obtain ⟨ff, hff⟩ := crash1 a0.data.toList a1.data.toList a1.data.toList.length ds LS.out true true 0
    have Hff : Hid (Dk.crashS ⟨[fA a0.data.toList, fB a1.data.toList a1.data.toList.length], true, true, 0⟩ ds = ⟨[fA a0.data.toList, ([98], ff)], false, false, 0⟩) := hff
    clear hff
    go_wp2_with fail
    refine (has_crash _ ds _ H9 (box_draws H9 HDr.out) (E := 0) (by unfold Dk.crashE; rw [if_neg LS.out]) Hff.out).mono ?_
    rintro e u10 ⟨rfl, H10⟩
    clear H9 c1 c2
    go_wp2_with fail
    refine (read_a a0 _ _ H10).mono ?_
    rintro e u11 ⟨rfl, rfl⟩
    go_wp2_with fail
    go_ret
    exact ⟨rfl, box_end H10⟩
  | n + 3, _ =>
    refine (has_append ⟨#[98]⟩ a1 _ H6 (by decide) W1.out (app_b1 a0.data.toList a1.data.toList LV.out (n + 2)).1 (app_b1 a0.data.toList a1.data.toList LV.out (n + 2)).2).mono ?_
    rintro e u7 ⟨rfl, H7⟩
    clear H6
    go_wp2_with fail
    refine (has_sync ⟨#[98]⟩ _ H7 (by decide) (E := 0) (s' := ⟨[fA a0.data.toList, fB a1.data.toList a1.data.toList.length], false, true, n + 1⟩) rfl rfl).mono ?_
    rintro e u8 ⟨rfl, H8⟩
    clear H7
    go_wp2_with fail
    refine (has_rename ⟨#[98]⟩ ⟨#[97]⟩ _ H8 (by decide) (by decide) (E := 0) (s' := ⟨[fA a1.data.toList], false, true, n⟩) rfl rfl).mono ?_
    rintro e u9 ⟨rfl, H9⟩
    clear H8
    obtain ⟨c1, c2⟩ := box_cells H9
    go_wp2_with fail
    refine (has_crash _ ds _ H9 (box_draws H9 HDr.out) (E := 0) (by unfold Dk.crashE; rw [if_neg LS.out]) (crash0 _ ds LS.out _ _ _)).mono ?_
    rintro e u10 ⟨rfl, H10⟩
    clear H9 c1 c2
    go_wp2_with fail
    refine (read_a a1 _ _ H10).mono ?_
    rintro e u11 ⟨rfl, rfl⟩
    go_wp2_with fail
    go_ret
    exact ⟨rfl, box_end H10⟩

theorem walk (a0 a1 : ByteArray) (f : Int) (a : Option Addr) (c : Nat) (ds : List Int) (w0 : a0.size ≤ maxLen) (w1 : a1.size ≤ maxLen) (w : World) (hd : DrawsAt w (fun i => w.heap.size ≤ i) (.slice a ds.length c) ds) :
    Calls Try.prog 7 #[.string a0, .string a1, .agg #[.int .i64 f, .slice a ds.length c]] w fun e w' => e = .returned (.bool true) ∧ Below w.heap.size w w' := by
  have hcm : c ≤ 9223372036854775807 := by obtain ⟨_, c', e, _, hc, _⟩ := hd; cases e; unfold maxLen at hc; omega
  have hdc : ds.length ≤ c := by obtain ⟨_, c', e, hc, _⟩ := hd; cases e; exact hc
  by_cases h0 : (262144 : Int) < (a0.size : Int) ∨ (262144 : Int) < (a1.size : Int) ∨ (4096 : Int) < (ds.length : Int)
  · exact walk_early a0 a1 f a c ds w0 w1 w hcm hdc h0
  · exact walk_main a0 a1 f a c ds w0 w1 w hcm hdc (by omega) (by omega) (by omega) hd

theorem cellsCut : Try.prog.cellsOf 48 = 2 := by kernel_rfl

set_option maxRecDepth 100000 in
theorem lifted (os : Os) (started : os.Started) (H : Type) (enc : TypeId × Value → H) :
    ReturnsInHanded {} Try.checked os 7 .any (Rows.diskSwapSpec.pre6 enc Try.prog Try.f7 Rows.diskSwapRow.domain false) (Rows.diskSwapSpec.post enc Try.prog Try.f7 false true false false) := by
  refine returnsInHanded_of_change (C := Try.checked) own started (by kernel_rfl) Try.func7
    (ChangeSpec.witness6 (enc := enc) (C := Try.checked) false ⟨#[], #[.string ByteArray.empty, .string ByteArray.empty, .agg #[.int .i64 0, .slice none 0 0]], []⟩ 8 (by kernel_rfl) (by kernel_rfl) (by kernel_rfl) (by kernel_rfl)) ?_
  intro W base args ds gs before hval0 hW hcnd _
  have hval : ∀ (j : Nat) t v, Try.f7.params[j]? = some t → args[j]? = some v → Value.okWide Try.prog W .any base t v := hval0
  have hW' := hW
  obtain ⟨p, q, hA0, hV, rfl, hfz, hnd⟩ := hW
  have hA : DataW.TrodAll enc Try.prog W 0 (fun _ => true) true Try.f7.params.toList args.toList ds p := hA0
  rw [Try.params7] at hA hval
  obtain ⟨v0, vs0, d0, ds0, p0, q0, hargs, rfl, rfl, h0, r0⟩ := trodAll_cons hA
  obtain ⟨v1, vs1, d1, ds1, p1, q1, rfl, rfl, rfl, h1, r1⟩ := trodAll_cons r0
  obtain ⟨v2, vs2, d2, ds2, p2, q2, rfl, rfl, rfl, h2, r2⟩ := trodAll_cons r1
  obtain ⟨rfl, rfl, rfl⟩ := trodAll_nil r2
  obtain rfl : args = #[v0, v1, v2] := by cases args; simp_all
  obtain ⟨rfl, rfl⟩ := trodVars_none hV
  obtain ⟨a0, rfl, rfl, rfl, w0⟩ := open_string Try.underlying9 (hval 0 9 v0 rfl rfl) h0
  obtain ⟨a1, rfl, rfl, rfl, w1⟩ := open_string Try.underlying9 (hval 1 9 v1 rfl rfl) h1
  have k2 := h2
  have lt2 : ∀ x ∈ p2, x.block < W.heap.size := by obtain ⟨m, hm⟩ := k2; exact DataW.trod_lt m _ _ _ hm
  have hex : ∃ f a ds c, v2 = .agg #[.int .i64 f, .slice a (List.length ds) c] ∧ DrawsAt W (fun i => W.heap.size ≤ i) (.slice a (List.length ds) c) ds := by
    obtain ⟨c0, c1, y0, y1, n, rfl, _, _, hy0, hy1⟩ := open_agg2 Try.underlying48 (by kernel_rfl) cellsCut (hval 2 48 v2 rfl rfl) h2
    obtain ⟨f, e0, _, _⟩ := DataW.trod_int Try.underlying3 hy0
    obtain ⟨a, dl, c, e1, hd⟩ := draws_of hy1
    simp only [List.cons.injEq, and_true] at e0
    exact ⟨f, a, dl, c, by rw [e0, e1], hd⟩
  obtain ⟨f, a, dl, c, rfl, hd⟩ := hex
  clear hA0 hval0
  refine (walk a0 a1 f a c dl w0 w1 W hd).mono fun e W' ⟨he, bel⟩ => ?_
  subst he
  exact ⟨_, rfl, _, _, _, [], _, [], hW', trodAll_mk1 (shut_bool Try.underlying4 _), (trodAll_cons_mk (shut_string Try.underlying9 w0) (trodAll_cons_mk (shut_string Try.underlying9 w1) (trodAll_cons_mk (Below.trod laidOut (by kernel_rfl) (of_decide_eq_true (by kernel_rfl)) k2 bel lt2) trodAll_mk0))), rfl, bel.frame _, fun h => by cases h⟩

end Go.Proofs.Ytbiombolpfhdlaa.Swap

namespace Go.Proofs.Ytbiombolpfhdlaa
theorem diskSwap_holds : Rows.DiskSwapSaid :=
  OpenClaim.holds_of_wide 7 Try.f7 rfl rfl rfl rfl rfl rfl rfl ⟨rfl, rfl, rfl, rfl, rfl⟩ rfl rfl rfl rfl rfl (by kernel_rfl) Try.func7 (by kernel_rfl)
    (of_decide_eq_true (by kernel_rfl)) (by unfold Func.isWrapper; first | (rw [if_pos (by decide +kernel)]; kernel_rfl) | (rw [if_neg (by decide +kernel)]; exact ⟨rfl, rfl⟩))
    (fun os started H enc _ => Swap.lifted os started H enc)
end Go.Proofs.Ytbiombolpfhdlaa
