/- One disk of a call's own: the calls' contracts, packed. -/
import Derived.Test.YtbiombolpfhdlaaRename
namespace Go.Proofs.Ytbiombolpfhdlaa
open Go.RowKit Go.Maps

/-- d is a disk s, all of whose blocks lie from B on; below B the world is as w0 was. -/
def Has (B : Nat) (w0 w : World) (d : Nat) (s : Dk.Dsk) : Prop :=
  ∃ m G, DiskG Try.prog w d m G s ∧ (∀ i, foot d m G i → B ≤ i) ∧ Below B w0 w ∧ B ≤ w.heap.size

theorem Has.goes {B : Nat} {w0 w w' : World} {d m : Nat} {G : List (List UInt8 × Gc)} {s' : Dk.Dsk} (hf : ∀ i, foot d m G i → B ≤ i) (hb : Below B w0 w) (hs : B ≤ w.heap.size) (h : Goes w w' d m G s') : Has B w0 w' d s' := by
  obtain ⟨G', h1, h2, h3⟩ := h
  refine ⟨m, G', h1, fun i hi => ?_, hb.trans ((h2.mono hf).toBelow hs), Nat.le_trans hs h2.size⟩
  rcases h3 i hi with h4 | h4
  · exact hf i h4
  · omega

/-- something else is made beside it -/
theorem Has.below {B : Nat} {w0 w w' : World} {d : Nat} {s : Dk.Dsk} (h : Has B w0 w d s) (hb : Below w.heap.size w w') : Has B w0 w' d s := by
  obtain ⟨m, G, h1, h2, h3, h4⟩ := h
  exact ⟨m, G, h1.kept (S := fun _ => False) (Turn.ofBelow _ hb) (fun _ _ h => h), h2, h3.trans (hb.mono h4), Nat.le_trans h4 hb.size⟩

theorem Has.pull {B : Nat} {w0 w : World} {d : Nat} {s : Dk.Dsk} (h : Has B w0 w d s) : Below B w0 w := by obtain ⟨m, G, h1, h2, h3, h4⟩ := h; exact h3

theorem has_new (w : World) : Calls Try.prog 9 #[] w fun e w' => e = .returned (.pointer (some ⟨w.heap.size + 1, 0, none⟩)) ∧ Has w.heap.size w w' (w.heap.size + 1) Dk.blank := by
  refine (new_any w).mono ?_
  rintro e w' ⟨rfl, hD, hb⟩
  refine ⟨rfl, _, _, hD, fun i hi => ?_, hb, hb.size⟩
  rcases hi with rfl | rfl | ⟨p, hp, _⟩
  · omega
  · omega
  · cases hp

section
variable {B : Nat} {w0 : World} {d : Nat} {s : Dk.Dsk}

theorem has_append (k data : ByteArray) (w : World) (h : Has B w0 w d s) (hk : k.size ≤ maxLen) (hds : data.size ≤ maxLen) {E : Int} {s' : Dk.Dsk} (hE : Dk.appendE s k.data.toList data.data.toList = E) (hS : Dk.appendS s k.data.toList data.data.toList = s') :
    Calls Try.prog 16 #[.pointer (some ⟨d, 0, none⟩), .string k, .string data] w fun e w' => e = .returned (.int .i64 E) ∧ Has B w0 w' d s' := by
  obtain ⟨m, G, h1, h2, h3, h4⟩ := h
  refine (append_any k data w h1 hk hds).mono ?_
  rintro e w' ⟨rfl, hg⟩
  exact ⟨by rw [hE], Has.goes h2 h3 h4 (hS ▸ hg)⟩

theorem has_sync (k : ByteArray) (w : World) (h : Has B w0 w d s) (hk : k.size ≤ maxLen) {E : Int} {s' : Dk.Dsk} (hE : Dk.syncE s k.data.toList = E) (hS : Dk.syncS s k.data.toList = s') :
    Calls Try.prog 17 #[.pointer (some ⟨d, 0, none⟩), .string k] w fun e w' => e = .returned (.int .i64 E) ∧ Has B w0 w' d s' := by
  obtain ⟨m, G, h1, h2, h3, h4⟩ := h
  refine (sync_any k w h1 hk).mono ?_
  rintro e w' ⟨rfl, hg⟩
  exact ⟨by rw [hE], Has.goes h2 h3 h4 (hS ▸ hg)⟩

theorem has_read (k : ByteArray) (w : World) (h : Has B w0 w d s) (hk : k.size ≤ maxLen) {E : Int} {l : List UInt8} (hE : Dk.findE s k.data.toList = E) (hS : Dk.readV s k.data.toList = l) :
    Calls Try.prog 23 #[.pointer (some ⟨d, 0, none⟩), .string k] w fun e w' => e = .returned (.tuple #[.string ⟨l.toArray⟩, .int .i64 E]) ∧ w = w' := by
  obtain ⟨m, G, h1, h2, h3, h4⟩ := h
  refine (read_any k w h1 hk).mono ?_
  rintro e w' ⟨rfl, rfl⟩
  exact ⟨by rw [hE, hS], rfl⟩

theorem has_rename (k k' : ByteArray) (w : World) (h : Has B w0 w d s) (hk : k.size ≤ maxLen) (hk' : k'.size ≤ maxLen) {E : Int} {s' : Dk.Dsk} (hE : Dk.renameE s k.data.toList k'.data.toList = E) (hS : Dk.renameS s k.data.toList k'.data.toList = s') :
    Calls Try.prog 18 #[.pointer (some ⟨d, 0, none⟩), .string k, .string k'] w fun e w' => e = .returned (.int .i64 E) ∧ Has B w0 w' d s' := by
  obtain ⟨m, G, h1, h2, h3, h4⟩ := h
  refine (rename_any k k' w h1 hk hk').mono ?_
  rintro e w' ⟨rfl, hg⟩
  exact ⟨by rw [hE], Has.goes h2 h3 h4 (hS ▸ hg)⟩

theorem has_fuse (n : Int) (w : World) (h : Has B w0 w d s) (hn : n ≤ 9223372036854775807) {E : Int} {s' : Dk.Dsk} (hE : Dk.fuseE n = E) (hS : Dk.fuseS s n = s') :
    Calls Try.prog 19 #[.pointer (some ⟨d, 0, none⟩), .int .i64 n] w fun e w' => e = .returned (.int .i64 E) ∧ Has B w0 w' d s' := by
  obtain ⟨m, G, h1, h2, h3, h4⟩ := h
  refine (fuse_any n w h1 hn).mono ?_
  rintro e w' ⟨rfl, hD, ht⟩
  exact ⟨by rw [hE], Has.goes h2 h3 h4 (hS ▸ Goes.top hD ht)⟩

/-- a crash whose draws lie below B -/
theorem has_crash (v : Value) (ds : List Int) (w : World) (h : Has B w0 w d s) (hd : DrawsAt w (fun i => B ≤ i) v ds) {E : Int} {s' : Dk.Dsk} (hE : Dk.crashE ds = E) (hS : Dk.crashS s ds = s') :
    Calls Try.prog 20 #[.pointer (some ⟨d, 0, none⟩), v] w fun e w' => e = .returned (.int .i64 E) ∧ Has B w0 w' d s' := by
  obtain ⟨m, G, h1, h2, h3, h4⟩ := h
  have hd' : DrawsAt w (foot d m G) v ds := by
    obtain ⟨a, c, e1, e2, e3, e4, e5⟩ := hd
    refine ⟨a, c, e1, e2, e3, fun hr => ?_, e5⟩
    obtain ⟨b, off, e6, e7, e8, e9⟩ := e4 hr
    exact ⟨b, off, e6, e7, fun hf => e8 (h2 b hf), e9⟩
  refine (crash_any v ds w h1 hd').mono ?_
  rintro e w' ⟨rfl, hg⟩
  exact ⟨by rw [hE], Has.goes h2 h3 h4 (hS ▸ hg)⟩

theorem DrawsAt.under {w w' : World} {B : Nat} {v : Value} {r : List Int} (h : DrawsAt w (fun i => B ≤ i) v r) (hb : Below B w w') : DrawsAt w' (fun i => B ≤ i) v r := by
  obtain ⟨a, c, h1, h2, h3, h4, h5⟩ := h
  refine ⟨a, c, h1, h2, h3, fun hr => ?_, h5⟩
  obtain ⟨b, off, e, hb1, hS, hc⟩ := h4 hr
  exact ⟨b, off, e, Nat.lt_of_lt_of_le hb1 hb.size, hS, fun i hi => (hb.cell (p := ⟨b, off + i, none⟩) (by show b < B; omega)).trans (hc i hi)⟩

/-- a crash of one draw, in a slice that was made for it -/
theorem has_crash_one (x : Int) (w : World) (h : Has B w0 w d s) (hx : x ≤ 9223372036854775807) {s' : Dk.Dsk} (hS : Dk.crashS s [x] = s') :
    Calls Try.prog 20 #[.pointer (some ⟨d, 0, none⟩), .slice (some ⟨w.heap.size, 0, none⟩) 1 1] (w.alloc (.cells #[.int .i64 x] 3 (0, 0))) fun e w' => e = .returned (.int .i64 0) ∧ Has B w0 w' d s' := by
  have ha : Below w.heap.size w (w.alloc (.cells #[.int .i64 x] 3 (0, 0))) := (Below.refl _ _).alloc (Nat.le_refl _) _
  obtain ⟨m, G, h1, h2, h3, h4⟩ := h
  have hlt : ∀ i, foot d m G i → i < w.heap.size := fun i hi => h1.lt hi
  have h1' := h1.alloc (.cells #[.int .i64 x] 3 (0, 0))
  have hd : DrawsAt (w.alloc (.cells #[.int .i64 x] 3 (0, 0))) (foot d m G) (.slice (some ⟨w.heap.size, 0, none⟩) 1 1) [x] := by
    refine ⟨_, 1, rfl, Nat.le_refl _, by unfold maxLen; omega, fun _ => ⟨w.heap.size, 0, rfl, by simp, fun hf => by have := hlt _ hf; omega, fun i hi => ?_⟩, fun y hy => by simp at hy; omega⟩
    obtain rfl : i = 0 := by simpa using hi
    rw [cell_of (heap_new w _)]
    rfl
  refine (crash_any _ [x] _ h1' hd).mono ?_
  rintro e w' ⟨rfl, hg⟩
  exact ⟨rfl, Has.goes h2 (h3.trans (ha.mono h4)) (Nat.le_trans h4 ha.size) (hS ▸ hg)⟩

theorem has_crash_nil (w : World) (h : Has B w0 w d s) {s' : Dk.Dsk} (hS : Dk.crashS s [] = s') :
    Calls Try.prog 20 #[.pointer (some ⟨d, 0, none⟩), .slice none 0 0] w fun e w' => e = .returned (.int .i64 0) ∧ Has B w0 w' d s' :=
  has_crash (.slice none 0 0) [] w h ⟨none, 0, rfl, Nat.le_refl _, Nat.zero_le _, fun h => absurd rfl h, by simp⟩ rfl hS

end

theorem nm_le (l : List UInt8) (h : l.length ≤ 32) : (⟨l.toArray⟩ : ByteArray).size ≤ maxLen := by
  unfold maxLen
  simp only [ByteArray.size, List.size_toArray]
  omega

set_option maxRecDepth 100000 in
set_option maxHeartbeats 1000000 in
theorem works_any (w : World) : Calls Try.prog 14 #[] w fun e w' => e = .returned (.bool true) ∧ Below w.heap.size w w' := by
  go_enter Try.func14, Try.ntmps14
  go_wp2_with fail
  refine (has_new _).mono ?_
  rintro e w1 ⟨rfl, h1⟩
  go_wp2_with fail
  refine (has_append ⟨#[97]⟩ ⟨#[120]⟩ _ h1 (by decide) (by decide) (E := 0) (s' := ⟨[([97], ⟨[120], 0⟩)], false, false, 0⟩) rfl rfl).mono ?_
  rintro e w2 ⟨rfl, h2⟩
  go_wp2_with fail
  refine (has_sync ⟨#[97]⟩ _ h2 (by decide) (E := 0) (s' := ⟨[([97], ⟨[120], 1⟩)], false, false, 0⟩) rfl rfl).mono ?_
  rintro e w3 ⟨rfl, h3⟩
  go_wp2_with fail
  refine (has_append ⟨#[97]⟩ ⟨#[121, 122]⟩ _ h3 (by decide) (by decide) (E := 0) (s' := ⟨[([97], ⟨[120, 121, 122], 1⟩)], false, false, 0⟩) rfl rfl).mono ?_
  rintro e w4 ⟨rfl, h4⟩
  go_wp2_with fail
  refine (has_crash_one 1 _ h4 (by decide) (s' := ⟨[([97], ⟨[120, 121], 2⟩)], false, false, 0⟩) rfl).mono ?_
  rintro e w5 ⟨rfl, h5⟩
  go_wp2_with fail
  refine (has_read ⟨#[97]⟩ _ h5 (by decide) (E := 0) (l := [120, 121]) rfl rfl).mono ?_
  rintro e w6 ⟨rfl, rfl⟩
  go_wp2_with fail
  go_ret
  exact ⟨rfl, h5.pull⟩

end Go.Proofs.Ytbiombolpfhdlaa
