/- ShaPieces: the law's walk. -/
import Derived.Test.YtfbimjhhbddfjaaDoorQKit
namespace Go.Proofs.YtfbimjhhbddfjaaDoor
open Go.RowKit QP

def strOne (s : ByteArray) : List Value := [.string s]
section
variable {I J : World → (Nat → Prop) → Prop} {w wr w' : World} {L : List (Nat × Obj)}

theorem Stand.callL (hJ : Res J) (h : Stand (Sep I J) w wr L) : ∃ A, I wr A ∧ ∀ w' I', Goes I' wr w' A → Stand (Sep I' J) w w' L := by
  obtain ⟨F, ⟨A, B, k1, k2, k3, k4, k5, k6⟩, h2, h3, h4, h5⟩ := h
  refine ⟨A, k1, fun w' I' hg => ?_⟩
  obtain ⟨A2, g1, g2, g3⟩ := hg
  refine ⟨fun i => A2 i ∨ B i, ⟨A2, B, g1, hJ.kept k2 g2 (fun i hi hA => k3 i hA hi), fun i hi hB => ?_, fun _ hi => Or.inl hi, fun _ hi => Or.inr hi, fun _ hi => hi⟩, fun i hi => ?_, fun p hp hF => ?_, fun p hp => ⟨(g2.block p.1 (lt_of (h4 p hp).1) (fun hA => h3 p hp (k4 _ hA))).trans (h4 p hp).1, (h4 p hp).2⟩, h5.trans ((g2.mono (fun i hi => h2 i (k4 i hi))).toBelow h5.size)⟩
  · rcases g3 i hi with h | h
    · exact k3 i h hB
    · have := hJ.lt k2 i hB; omega
  · rcases hi with hi | hi
    · rcases g3 i hi with h | h
      · exact h2 i (k4 i h)
      · exact Nat.le_trans h5.size h
    · exact h2 i (k5 i hi)
  · rcases hF with hF | hF
    · rcases g3 _ hF with h | h
      · exact h3 p hp (k4 _ h)
      · have := lt_of (h4 p hp).1; omega
    · exact h3 p hp (k5 _ hF)
theorem Stand.swap (h : Stand (Sep I J) w wr L) : Stand (Sep J I) w wr L := by
  obtain ⟨F, h1, h2⟩ := h
  exact ⟨F, h1.swap, h2⟩
theorem Stand.callR (hI : Res I) (h : Stand (Sep I J) w wr L) : ∃ A, J wr A ∧ ∀ w' J', Goes J' wr w' A → Stand (Sep I J') w w' L := by
  obtain ⟨A, h1, h2⟩ := Stand.callL hI h.swap
  exact ⟨A, h1, fun w' J' hg => (h2 w' J' hg).swap⟩
/-- a second object, made now -/
theorem Stand.also (R : Res I) (h : Stand I w wr L) {A : Nat → Prop} (h2 : J w' A) (h3 : ∀ i, A i → wr.heap.size ≤ i) (h4 : Below wr.heap.size wr w') : Stand (Sep I J) w w' L := by
  obtain ⟨F, x1, x2, x3, x4, x5⟩ := h
  refine ⟨fun i => F i ∨ A i, Sep.mk (R.kept (S := fun _ => False) x1 (Turn.ofBelow _ h4) (fun _ _ h => h)) h2 (fun i hi hA => ?_), fun i hi => ?_, fun p hp hF => ?_, fun p hp => ⟨(h4.block p.1 (lt_of (x4 p hp).1)).trans (x4 p hp).1, (x4 p hp).2⟩, x5.trans (h4.mono x5.size)⟩
  · have := R.lt x1 i hi
    have := h3 i hA
    omega
  · rcases hi with h | h
    · exact x2 i h
    · exact Nat.le_trans x5.size (h3 i h)
  · rcases hF with h | h
    · exact x3 p hp h
    · have := h3 _ h
      have := lt_of (x4 p hp).1
      omega
end

namespace PiecesL

theorem strs_open {w : World} {v0 : Value} {L : List ByteArray} (hL : SliceAt w v0 1 strOne L) : ∃ a c, v0 = .slice a L.length c ∧ (L ≠ [] → ∃ b off, a = some ⟨b, off, none⟩ ∧ b < w.heap.size ∧ ∀ i, (h : i < L.length) → w.cell? ⟨b, off + i, none⟩ = some (.string L[i])) := by
  obtain ⟨a, c, rfl, -, -, hx⟩ := hL
  refine ⟨a, c, rfl, fun hne => ?_⟩
  obtain ⟨b, off, h1, h2, h3⟩ := hx hne
  refine ⟨b, off, h1, h2, fun i hi => ?_⟩
  have := h3 i hi 0 (.string L[i]) rfl
  simpa using this
abbrev xx : ByteArray := ⟨#[120]⟩

set_option maxRecDepth 100000 in
set_option maxHeartbeats 4000000 in
theorem walk (T : Kit) (H : KitH T.Ok) (v0 : Value) (L : List ByteArray) (w : World) (hw : T.Ok w) (hL : SliceAt w v0 1 strOne L) : Calls Tryd.prog 6 #[v0] w fun e w' => e = .returned (.bool true) ∧ Below w.heap.size w w' := by
  obtain ⟨a, c, rfl, hx⟩ := strs_open hL
  have HX : Hid (L ≠ [] → ∃ b off, a = some ⟨b, off, none⟩ ∧ b < w.heap.size ∧ ∀ i, (h : i < L.length) → w.cell? ⟨b, off + i, none⟩ = some (.string L[i])) := hx
  have HW : Hid (Calls Tryd.prog 8 #[] w fun e w' => e = .returned (.bool true) ∧ Below w.heap.size w w') := works_any T w hw
  have HN : Hid (∀ u, Below w.heap.size w u → Calls Tryd.prog 18 #[] u fun e w' => ∃ g F, e = .returned (.pointer (some ⟨g, 0, none⟩)) ∧ H.I g [] w' F ∧ (∀ i, F i → u.heap.size ≤ i) ∧ Below u.heap.size u w') := fun u hu => H.new u (T.ok hw hu)
  have HS : Hid (∀ (b : ByteArray) u, b.size ≤ 400000 → Below w.heap.size w u → Calls Tryd.prog 9 #[.string b] u fun e w' => e = .returned (.string (ofN (dig (nb b)))) ∧ Below u.heap.size u w') := fun b u hb hu => T.sum b u (T.ok hw hu) hb
  have HWr : Hid (∀ (g : Nat) (m : List Nat) (b : ByteArray) (u : World) (F : Nat → Prop), Below w.heap.size w u → H.I g m u F → m.length + b.size ≤ 400000 → Calls Tryd.prog 19 #[.pointer (some ⟨g, 0, none⟩), .string b] u fun e w' => e = .returned (.tuple #[]) ∧ Goes (H.I g (m ++ nb b)) u w' F) := fun g m b u F hu => H.write g m b u F (T.ok hw hu)
  have HHs : Hid (∀ (g : Nat) (m : List Nat) (u : World) (F : Nat → Prop), Below w.heap.size w u → H.I g m u F → m.length ≤ 400000 → Calls Tryd.prog 20 #[.pointer (some ⟨g, 0, none⟩)] u fun e w' => e = .returned (.string (ofN (dig m))) ∧ Goes (H.I g m) u w' F) := fun g m u F hu => H.hsum g m u F (T.ok hw hu)
  clear hx hL
  go_enter Tryd.func6, Tryd.ntmps6
  go_wp2_with fail
  refine HW.out.mono ?_
  rintro y w1 ⟨rfl, hb1⟩
  go_wp2_with fail
  refine (HN.out _ hb1).mono ?_
  rintro y w2 ⟨g1, F1, rfl, i1, n1, hb2⟩
  have S2 : Stand (H.I g1 []) w w2 [] := Stand.start i1 (fun i hi => Nat.le_trans hb1.size (n1 i hi)) (hb1.trans (hb2.mono hb1.size))
  have HS2 : Hid (Stand (H.I g1 []) w w2 []) := S2
  clear i1 n1 hb1 hb2 S2
  go_wp2_with fail
  refine (HN.out _ HS2.out.base).mono ?_
  rintro y w3 ⟨g2, F2, rfl, i2, n2, hb3⟩
  have HS3 : Hid (Stand (Sep (H.I g1 []) (H.I g2 [])) w w3 []) := Stand.also (H.res g1 []) HS2.out i2 n2 hb3
  clear i2 n2 hb3 HS2
  go_wp2_with fail
  go_loopw [5, 6] (fun av iv wr => ∃ (i : Nat) (A : ByteArray) (m2 : List Nat), i ≤ L.length ∧ i ≤ 40 ∧ iv = .int .i64 i ∧ av = .string A ∧ A.size ≤ 3000 * i ∧ m2.length ≤ 3001 * i ∧ Hid (Stand (Sep (H.I g1 (nb A)) (H.I g2 m2)) w wr [])) (fun _ iv _ => 40 - (intOf iv).toNat)
  case atStart => exact ⟨0, ⟨#[]⟩, [], by omega, by omega, rfl, rfl, by decide, by decide, HS3⟩
  case round =>
    clear HS3
    obtain ⟨i, A, m2, hiL, hi, rfl, rfl, hA, hm2, HSt⟩ := hrel
    have HEnd : Hid (∀ D, ofN (dig (nb A)) = D → ∃ F, H.I g1 (nb A) wr F ∧ Calls Tryd.prog 20 #[.pointer (some ⟨g1, 0, none⟩)] wr fun e w' => e = .returned (.string D) ∧ Below w.heap.size w w') := fun D hD => by
      obtain ⟨F, k1, k2⟩ := Stand.callL (H.res g2 m2) HSt.out
      refine ⟨F, k1, (HHs.out g1 (nb A) wr F HSt.out.base k1 (by rw [nb_length]; omega)).mono fun e w' h => ⟨by rw [← hD]; exact h.1, (k2 _ _ h.2).base⟩⟩
    by_cases hlt : i < L.length ∧ i < 40
    · obtain ⟨h1, h2⟩ := hlt
      have d1 : decide ((i : Int) < (L.length : Int)) = true := decide_eq_true (by omega)
      have d2 : decide ((i : Int) < 40) = true := decide_eq_true (by omega)
      have d3 : (i : Int) < (L.length : Int) := by omega
      obtain ⟨b, off, rfl, hbw, hcs⟩ := HX.out (by intro e; rw [e] at h1; exact absurd h1 (Nat.not_lt_zero _))
      obtain ⟨s, hs⟩ : ∃ s, L[i] = s := ⟨_, rfl⟩
      have hce0 := hcs i h1
      rw [hs] at hce0
      have hce : wr.cell? ⟨b, off + i, none⟩ = some (.string s) := (HSt.out.base.cell (p := ⟨b, off + i, none⟩) hbw).trans hce0
      by_cases hsz : 3000 < s.size
      · have hszI : (3000 : Int) < (s.size : Int) := by omega
        clear hcs hs hce0 HEnd
        go_wp2_with fail
        go_roundw
        case rel => exact ⟨i + 1, A, m2, by omega, by omega, by go_num, rfl, by omega, by omega, HSt⟩
        case measure => simp [intOf]; omega
      · have hszI : ¬ (3000 : Int) < (s.size : Int) := by omega
        have hc3 : Hid (∀ u, Below w.heap.size w u → u.cell? ⟨b, off + i, none⟩ = some (.string s)) := fun u hu => (hu.cell (p := ⟨b, off + i, none⟩) hbw).trans hce0
        obtain ⟨Fa, ka, ga⟩ := Stand.callL (H.res g2 m2) HSt.out
        have CA := HWr.out g1 (nb A) s wr Fa HSt.out.base ka (by rw [nb_length]; omega)
        have HCA : Hid (Calls Tryd.prog 19 #[.pointer (some ⟨g1, 0, none⟩), .string s] wr fun e w' => e = .returned (.tuple #[]) ∧ Stand (Sep (H.I g1 (nb (A ++ s))) (H.I g2 m2)) w w' []) := CA.mono fun e w' h => ⟨h.1, by
          have := ga _ _ h.2
          rw [← nb_append] at this
          exact this⟩
        clear CA ka ga
        have hsA : (A ++ s).size = A.size + s.size := ByteArray.size_append
        have hsX : (xx ++ s).size = 1 + s.size := ByteArray.size_append
        clear hcs hs hce0 HEnd HSt
        go_wp2_with fail
        refine HCA.out.mono ?_
        rintro y w4 ⟨rfl, hS4⟩
        have HS4 : Hid (Stand (Sep (H.I g1 (nb (A ++ s))) (H.I g2 m2)) w w4 []) := hS4
        have hce4 := hc3.out w4 hS4.base
        obtain ⟨Fb, kb, gb⟩ := Stand.callR (H.res g1 (nb (A ++ s))) hS4
        have HCB : Hid (Calls Tryd.prog 19 #[.pointer (some ⟨g2, 0, none⟩), .string (xx ++ s)] w4 fun e w' => e = .returned (.tuple #[]) ∧ Stand (Sep (H.I g1 (nb (A ++ s))) (H.I g2 (m2 ++ nb (xx ++ s)))) w w' []) := (HWr.out g2 m2 (xx ++ s) w4 Fb hS4.base kb (by omega)).mono fun e w' h => ⟨h.1, gb _ _ h.2⟩
        have hm3 : (m2 ++ nb (xx ++ s)).length ≤ 3001 * (i + 1) := by rw [List.length_append, nb_length]; omega
        clear kb gb hS4 HCA HS4
        go_wp2_with fail
        refine HCB.out.mono ?_
        rintro y w5 ⟨rfl, hS5⟩
        have hce5 := hc3.out w5 hS5.base
        obtain ⟨Fc, kc, gc⟩ := Stand.callL (H.res g2 (m2 ++ nb (xx ++ s))) hS5
        obtain ⟨D, hD⟩ : ∃ D, ofN (dig (nb (A ++ s))) = D := ⟨_, rfl⟩
        have hDs : D.size = 32 := by rw [← hD, ofN_size, dig_length]
        have HCC : Hid (Calls Tryd.prog 20 #[.pointer (some ⟨g1, 0, none⟩)] w5 fun e w' => e = .returned (.string D) ∧ Stand (Sep (H.I g1 (nb (A ++ s))) (H.I g2 (m2 ++ nb (xx ++ s)))) w w' []) := (HHs.out g1 (nb (A ++ s)) w5 Fc hS5.base kc (by rw [nb_length]; omega)).mono fun e w' h => ⟨by rw [← hD]; exact h.1, gc _ _ h.2⟩
        have hBs : Hid ((A ++ s).size ≤ 3000 * (i + 1)) := by show _ ≤ _; omega
        have HSm : Hid (∀ u, Below w.heap.size w u → Calls Tryd.prog 9 #[.string (A ++ s)] u fun e w' => e = .returned (.string D) ∧ Below u.heap.size u w') := fun u hu => by
          have := HS.out (A ++ s) u (by omega) hu
          rw [hD] at this
          exact this
        have hAs : A.size + s.size ≤ 1000000 := by omega
        obtain ⟨M, hM⟩ : ∃ M, m2 ++ nb (xx ++ s) = M := ⟨_, rfl⟩
        rw [hM] at HCC hm3
        have hDI : ((D.size : Int) != 32) = false := by rw [hDs]; rfl
        clear kc gc hS5 HCB hD hM hc3
        go_wp2_with fail
        refine HCC.out.mono ?_
        rintro y w6 ⟨rfl, hS6⟩
        have HS6 : Hid (Stand (Sep (H.I g1 (nb (A ++ s))) (H.I g2 M)) w w6 []) := hS6
        clear hS6 HCC
        go_wp2_with fail
        refine (HSm.out _ HS6.out.base).mono ?_
        rintro y w7 ⟨rfl, hb7⟩
        have HS7 : Hid (Stand (Sep (H.I g1 (nb (A ++ s))) (H.I g2 M)) w w7 []) := HS6.out.below (Sep.res (H.res _ _) (H.res _ _)) hb7
        clear hb7 HS6
        go_wp2_with fail
        go_roundw
        case rel => exact ⟨i + 1, A ++ s, M, by omega, by omega, by go_num, rfl, hBs.out, hm3, HS7⟩
        case measure => simp [intOf]; omega
    · obtain ⟨D, hD⟩ : ∃ D, ofN (dig (nb A)) = D := ⟨_, rfl⟩
      obtain ⟨F, k1, k2⟩ := HEnd.out D hD
      have HC1 : Hid (Calls Tryd.prog 20 #[.pointer (some ⟨g1, 0, none⟩)] wr fun e w' => e = .returned (.string D) ∧ Below w.heap.size w w') := k2
      have HC2 : Hid (∀ u, Below w.heap.size w u → Calls Tryd.prog 9 #[.string A] u fun e w' => e = .returned (.string D) ∧ Below w.heap.size w w') := fun u hu => by
        refine (HS.out A u (by omega) hu).mono fun e w' h => ?_
        rw [hD] at h
        exact ⟨h.1, hu.trans (h.2.mono hu.size)⟩
      clear k1 k2 HEnd hD HSt
      by_cases h1 : i < L.length
      · have d1 : decide ((i : Int) < (L.length : Int)) = true := decide_eq_true (by omega)
        have d2 : decide ((i : Int) < 40) = false := decide_eq_false (by omega)
        go_wp2_with fail
        refine HC1.out.mono ?_
        rintro y w4 ⟨rfl, hb4⟩
        go_wp2_with fail
        refine (HC2.out _ hb4).mono ?_
        rintro y w5 ⟨rfl, hb5⟩
        go_wp2_with fail
        go_ret
        exact ⟨rfl, hb5⟩
      · have d1 : decide ((i : Int) < (L.length : Int)) = false := decide_eq_false (by omega)
        go_wp2_with fail
        refine HC1.out.mono ?_
        rintro y w4 ⟨rfl, hb4⟩
        go_wp2_with fail
        refine (HC2.out _ hb4).mono ?_
        rintro y w5 ⟨rfl, hb5⟩
        go_wp2_with fail
        go_ret
        exact ⟨rfl, hb5⟩
end PiecesL
end Go.Proofs.YtfbimjhhbddfjaaDoor
