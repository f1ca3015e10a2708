/- mess: the writer's texts, flags, lists and schemas. -/
import Derived.Test.YtnboanlhdllhnaaGreatZWr
namespace Go.Proofs.YtnboanlhdllhnaaGreat
open Go.RowKit

section
variable {b : Nat} {l : List UInt8} {w : World} {F : Nat → Prop}

set_option maxRecDepth 100000 in
set_option maxHeartbeats 1000000 in
theorem wtext_any (s : ByteArray) (h : WrI b l w F) (hl : l.length + (txt s).length ≤ 65536) :
    Calls Tryz.prog 123 #[.pointer (some ⟨b, 0, none⟩), .string s] w fun e w' => e = .returned (.tuple #[]) ∧ Goes (WrI b (l ++ txt s)) w w' F := by
  rw [txt_length] at hl
  have H1 : Hid (Calls Tryz.prog 67 #[.pointer (some ⟨b, 0, none⟩), .int .i64 (s.size : Int)] w fun e w' => e = .returned (.tuple #[]) ∧ Hid (MidS (WrI b (l ++ le8 (s.size : Int))) w w' F [])) := by
    obtain ⟨A, h1, h2⟩ := (MidS.start h).call
    exact (wnumber_any b l _ w A h1 (by omega) ⟨by omega, by omega⟩).mono fun e w' ⟨e1, e2⟩ => ⟨e1, h2 w' _ e2⟩
  have H2 : Hid (∀ u, MidS (WrI b (l ++ le8 (s.size : Int))) w u F [] → Calls Tryz.prog 88 #[.pointer (some ⟨b, 0, none⟩), .string s] u fun e w' => e = .returned (.tuple #[]) ∧ Hid (Goes (WrI b (l ++ txt s)) w w' F)) := fun u hu => by
    obtain ⟨A, h1, h2⟩ := hu.call
    refine (put_any b _ s u A h1 (by rw [List.length_append, le8_length]; omega)).mono fun e w' ⟨e1, e2⟩ => ⟨e1, ?_⟩
    rw [List.append_assoc] at e2
    exact (h2 w' _ e2).goes
  clear h
  go_enter Tryz.func123, Tryz.ntmps123
  go_wp2_with (first
    | (go_at_call 67; go_must (refine H1.out.mono ?_; rintro e w1 ⟨rfl, K1⟩))
    | (go_at_call 88; go_must (refine (H2.out _ K1.out).mono ?_; rintro e w2 ⟨rfl, K2⟩)))
  go_end0
  exact ⟨rfl, K2.out⟩

set_option maxHeartbeats 400000 in
theorem wflag_any (u : Bool) (h : WrI b l w F) (hl : l.length + 1 ≤ 65536) :
    Calls Tryz.prog 154 #[.pointer (some ⟨b, 0, none⟩), .bool u] w fun e w' => e = .returned (.tuple #[]) ∧ Goes (WrI b (l ++ flagB u)) w w' F := by
  have H1 : Hid (Calls Tryz.prog 88 #[.pointer (some ⟨b, 0, none⟩), .string ⟨#[1]⟩] w fun e w' => e = .returned (.tuple #[]) ∧ Hid (Goes (WrI b (l ++ flagB true)) w w' F)) := put_any b l ⟨#[1]⟩ w F h hl
  have H0 : Hid (Calls Tryz.prog 88 #[.pointer (some ⟨b, 0, none⟩), .string ⟨#[0]⟩] w fun e w' => e = .returned (.tuple #[]) ∧ Hid (Goes (WrI b (l ++ flagB false)) w w' F)) := put_any b l ⟨#[0]⟩ w F h hl
  clear h
  cases u
  · go_enter Tryz.func154, Tryz.ntmps154
    go_wp2_with (go_at_call 88; go_must (refine H0.out.mono ?_; rintro e w1 ⟨rfl, K1⟩))
    go_end0
    exact ⟨rfl, K1.out⟩
  · go_enter Tryz.func154, Tryz.ntmps154
    go_wp2_with (go_at_call 88; go_must (refine H1.out.mono ?_; rintro e w1 ⟨rfl, K1⟩))
    go_end0
    exact ⟨rfl, K1.out⟩

set_option maxRecDepth 100000 in
set_option maxHeartbeats 1000000 in
theorem wcolumn_any (nm : ByteArray) (k : Int) (h : WrI b l w F) (hl : l.length + (colB (nm, k)).length ≤ 65536) (hk : I64 k) :
    Calls Tryz.prog 143 #[.pointer (some ⟨b, 0, none⟩), .agg #[.string nm, .int .i64 k]] w fun e w' => e = .returned (.tuple #[]) ∧ Goes (WrI b (l ++ colB (nm, k))) w w' F := by
  unfold colB at hl
  rw [List.length_append, le8_length] at hl
  have H1 : Hid (Calls Tryz.prog 123 #[.pointer (some ⟨b, 0, none⟩), .string nm] (w.alloc (.cells #[.string nm, .int .i64 k] 70)) fun e w' => e = .returned (.tuple #[]) ∧ Hid (MidS (WrI b (l ++ txt nm)) w w' F [(w.heap.size, .cells #[.string nm, .int .i64 k] 70)])) := by
    obtain ⟨A, h1, h2⟩ := ((MidS.start h).alloc (wrI_res _ _) (.cells #[.string nm, .int .i64 k] 70)).call
    exact (wtext_any nm h1 (by simp only at hl; omega)).mono fun e w' ⟨e1, e2⟩ => ⟨e1, h2 w' _ e2⟩
  have H2 : Hid (∀ u, MidS (WrI b (l ++ txt nm)) w u F [(w.heap.size, .cells #[.string nm, .int .i64 k] 70)] → Calls Tryz.prog 67 #[.pointer (some ⟨b, 0, none⟩), .int .i64 k] u fun e w' => e = .returned (.tuple #[]) ∧ Hid (Goes (WrI b (l ++ colB (nm, k))) w w' F)) := fun u hu => by
    obtain ⟨A, h1, h2⟩ := hu.call
    refine (wnumber_any b _ k u A h1 (by rw [List.length_append]; simp only at hl; omega) hk).mono fun e w' ⟨e1, e2⟩ => ⟨e1, ?_⟩
    rw [List.append_assoc] at e2
    exact (h2 w' _ e2).goes
  have HC : Hid (∀ u, MidS (WrI b (l ++ txt nm)) w u F [(w.heap.size, .cells #[.string nm, .int .i64 k] 70)] → u.cell? ⟨w.heap.size, 1, none⟩ = some (.int .i64 k)) := fun u hu => by rw [cell_of (hu.at (List.mem_singleton.2 rfl))]; rfl
  clear h
  go_enter Tryz.func143, Tryz.ntmps143
  go_wp2_with (first
    | (go_at_call 123; go_must (refine H1.out.mono ?_; rintro e w1 ⟨rfl, K1⟩; have c1 := HC.out _ K1.out))
    | (go_at_call 67; go_must (refine (H2.out _ K1.out).mono ?_; rintro e w2 ⟨rfl, K2⟩)))
  go_end0
  exact ⟨rfl, K2.out⟩

theorem flat_take {α : Type} (f : α → List UInt8) (L : List α) (i : Nat) : ((L.take i).flatMap f).length ≤ (L.flatMap f).length := by
  rw [← List.take_append_drop i L]
  simp only [List.flatMap_append, List.length_append]
  rw [List.take_append_drop]
  omega
theorem flat_next {α : Type} (f : α → List UInt8) {L : List α} {i : Nat} {x : α} (h : L[i]? = some x) : (L.take (i + 1)).flatMap f = (L.take i).flatMap f ++ f x := by
  rw [List.take_add_one, h, List.flatMap_append]
  simp

set_option maxRecDepth 100000 in
set_option maxHeartbeats 1000000 in
theorem wlistC_any (w0 : World) (cv : Value) (L : List (ByteArray × Int)) (h : WrI b l w F) (hb : Below w0.heap.size w0 w) (hF : ∀ i, F i → w0.heap.size ≤ i) (h0 : SliceAt w0 cv 2 enC L)
    (hl : l.length + (colsB L).length ≤ 65536) (hk : ∀ c ∈ L, I64 c.2) (hL : L.length ≤ 4096) :
    Calls Tryz.prog 142 #[.pointer (some ⟨b, 0, none⟩), cv, .func (.func 143) #[.pointer (some ⟨b, 0, none⟩)] #[]] w fun e w' => e = .returned (.tuple #[]) ∧ Goes (WrI b (l ++ colsB L)) w w' F := by
  obtain ⟨a, c, rfl, s1, s2, s3⟩ := h0.opened
  unfold maxLen at s2
  have HX : Hid (∀ u, MidS (fun _ _ => True) w u F [] → ∀ i y, L[i]? = some y → ∃ b off, a = some ⟨b, off, none⟩ ∧ u.cell? ⟨b, off + i * 2, none⟩ = some (.string y.1) ∧ u.cell? ⟨b, off + i * 2 + 1, none⟩ = some (.int .i64 y.2)) := fun u hu i y hy => by
    obtain ⟨hi, rfl⟩ := List.getElem?_eq_some_iff.1 hy
    obtain ⟨b, off, e, _, hc⟩ := s3 u (hb.trans (hu.below hF hb.size)) i hi
    exact ⟨b, off, e, hc 0 _ rfl, hc 1 _ rfl⟩
  obtain ⟨N, hN⟩ : ∃ N, L.length = N := ⟨_, rfl⟩
  have HN : Hid (L.length = N) := hN
  unfold colsB at hl
  rw [List.length_append, le8_length] at hl
  have HLn : Hid (l.length + (8 + (L.flatMap colB).length) ≤ 65536) := hl
  rw [hN] at s1 hL ⊢
  have H1 : Hid (Calls Tryz.prog 67 #[.pointer (some ⟨b, 0, none⟩), .int .i64 (N : Int)] w fun e w' => e = .returned (.tuple #[]) ∧ Hid (MidS (WrI b (l ++ le8 (N : Int))) w w' F [])) := by
    obtain ⟨A, h1, h2⟩ := (MidS.start h).call
    exact (wnumber_any b l _ w A h1 (by omega) ⟨by omega, by omega⟩).mono fun e w' ⟨e1, e2⟩ => ⟨e1, h2 w' _ e2⟩
  have H2 : Hid (∀ u i y, MidS (WrI b (l ++ le8 (N : Int) ++ (L.take i).flatMap colB)) w u F [] → L[i]? = some y → ∀ o : Obj, Calls Tryz.prog 143 #[.pointer (some ⟨b, 0, none⟩), .agg #[.string y.1, .int .i64 y.2]] (u.alloc o) fun e w' => e = .returned (.tuple #[]) ∧ Hid (MidS (WrI b (l ++ le8 (N : Int) ++ (L.take (i + 1)).flatMap colB)) w w' F [])) := fun u i y hu hy o => by
    obtain ⟨y1, y2⟩ := y
    obtain ⟨A, h1, h2⟩ := (hu.alloc (wrI_res _ _) o).call
    have hfl := flat_take colB L (i + 1)
    rw [flat_next colB hy, List.length_append] at hfl
    refine (wcolumn_any y1 y2 h1 (by rw [List.length_append, List.length_append, le8_length]; omega) (hk (y1, y2) (List.mem_of_getElem? hy))).mono fun e w' ⟨e1, e2⟩ => ⟨e1, ?_⟩
    rw [List.append_assoc, ← flat_next colB hy] at e2
    exact (h2 w' _ e2).drop (fun _ h => by cases h)
  clear h hb hF h0 s3 hk hN hl
  have hLI : ¬ (4096 : Int) < (N : Int) := by omega
  go_enter Tryz.func142, Tryz.ntmps142
  go_wp2_with (go_at_call 67; go_must (refine H1.out.mono ?_; rintro e w1 ⟨rfl, K1⟩))
  go_loopw [20] (fun v wr => ∃ i : Nat, i ≤ N ∧ v = .int .i64 i ∧ Hid (MidS (WrI b (l ++ le8 (N : Int) ++ (L.take i).flatMap colB)) w wr F [])) (fun v _ => N - (intOf v).toNat)
  case atStart => exact ⟨0, Nat.zero_le _, rfl, (by show MidS _ _ _ _ _; simpa using K1.out)⟩
  case round =>
    clear K1
    obtain ⟨i, hi, rfl, HM⟩ := hrel
    by_cases hlt : i < N
    · obtain ⟨⟨y, k⟩, hy⟩ : ∃ y, L[i]? = some y := ⟨_, List.getElem?_eq_getElem (by rw [HN.out]; exact hlt)⟩
      obtain ⟨bb, off, rfl, q1, q2⟩ := HX.out wr (by obtain ⟨F', k1, k2, k3, k4⟩ := HM.out; exact ⟨F', trivial, k2, k3, k4⟩) i (y, k) hy
      dsimp only at q1 q2
      have H3 : Hid (∀ o : Obj, Calls Tryz.prog 143 #[.pointer (some ⟨b, 0, none⟩), .agg #[.string y, .int .i64 k]] (wr.alloc o) fun e w' => e = .returned (.tuple #[]) ∧ Hid (MidS (WrI b (l ++ le8 (N : Int) ++ (L.take (i + 1)).flatMap colB)) w w' F [])) := fun o => H2.out wr i (y, k) HM.out hy o
      have hlI : (i : Int) < (N : Int) := by omega
      clear hy
      go_wp2_with (go_at_call 143; go_must (refine (H3.out _).mono ?_; rintro e w2 ⟨rfl, K2⟩))
      go_roundw
      case rel => exact ⟨i + 1, by omega, by go_num, K2⟩
      case measure => simp [intOf]; omega
    · have hlI : ¬ (i : Int) < (N : Int) := by omega
      go_wp2
      go_end0
      refine ⟨rfl, ?_⟩
      have := HM.out.goes
      rw [List.take_of_length_le (by rw [HN.out]; omega)] at this
      unfold colsB
      rw [HN.out, ← List.append_assoc]
      exact this
end

end Go.Proofs.YtnboanlhdllhnaaGreat
