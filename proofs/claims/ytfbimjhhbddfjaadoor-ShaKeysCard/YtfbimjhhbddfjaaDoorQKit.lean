/- What is asked of the program's sha (its contracts, as one hypothesis), and what the chapter's examples come to. -/
import Derived.Test.YtfbimjhhbddfjaaDoorQRefX
namespace Go.Proofs.YtfbimjhhbddfjaaDoor
open Go.RowKit QP

/-- the contracts of the program's calls; Ok: what they ask of a world -/
structure Kit where
  Ok : World → Prop
  ok : ∀ {w w' : World}, Ok w → Below w.heap.size w w' → Ok w'
  sum : ∀ (b : ByteArray) (w : World), Ok w → b.size ≤ 400000 → Calls Tryd.prog 9 #[.string b] w (SumR w (dig (nb b)))
  mac : ∀ (k b : ByteArray) (w : World), Ok w → k.size ≤ 300000 → b.size ≤ 300000 → Calls Tryd.prog 11 #[.string k, .string b] w (SumR w (mac (nb k) (nb b)))
  hex : ∀ (b : ByteArray) (w : World), Ok w → Calls Tryd.prog 13 #[.string b] w (HexR w (nb b))
  unhex : ∀ (b : ByteArray) (w : World), Ok w → b.size ≤ 140737488355328 → Calls Tryd.prog 15 #[.string b] w (UnR w (nb b))
  equal : ∀ (a b : ByteArray) (w : World), Ok w → a.size ≤ 140737488355328 → b.size ≤ 140737488355328 → Calls Tryd.prog 17 #[.string a, .string b] w fun e w' => e = .returned (.bool (decide (a = b))) ∧ Below w.heap.size w w'

/-- the contracts of the program's hashes: of the pointer g, the bytes so far, and a footprint -/
structure KitH (Ok : World → Prop) where
  I : Nat → List Nat → World → (Nat → Prop) → Prop
  res : ∀ g m, Res (I g m)
  new : ∀ w : World, Ok w → Calls Tryd.prog 18 #[] w fun e w' => ∃ g F, e = .returned (.pointer (some ⟨g, 0, none⟩)) ∧ I g [] w' F ∧ (∀ i, F i → w.heap.size ≤ i) ∧ Below w.heap.size w w'
  write : ∀ (g : Nat) (m : List Nat) (b : ByteArray) (w : World) (F : Nat → Prop), Ok w → I g m w F → m.length + b.size ≤ 400000 → Calls Tryd.prog 19 #[.pointer (some ⟨g, 0, none⟩), .string b] w fun e w' => e = .returned (.tuple #[]) ∧ Goes (I g (m ++ nb b)) w w' F
  hsum : ∀ (g : Nat) (m : List Nat) (w : World) (F : Nat → Prop), Ok w → I g m w F → m.length ≤ 400000 → Calls Tryd.prog 20 #[.pointer (some ⟨g, 0, none⟩)] w fun e w' => e = .returned (.string (ofN (dig m))) ∧ Goes (I g m) w w' F

/-! ### the chapter's examples -/
abbrev abc : ByteArray := ⟨#[97, 98, 99]⟩
abbrev jefe : ByteArray := ⟨#[74, 101, 102, 101]⟩
abbrev what : ByteArray := ⟨#[119, 104, 97, 116, 32, 100, 111, 32, 121, 97, 32, 119, 97, 110, 116, 32, 102, 111, 114, 32, 110, 111, 116, 104, 105, 110, 103, 63]⟩
abbrev abcX : ByteArray := ⟨#[98, 97, 55, 56, 49, 54, 98, 102, 56, 102, 48, 49, 99, 102, 101, 97, 52, 49, 52, 49, 52, 48, 100, 101, 53, 100, 97, 101, 50, 50, 50, 51, 98, 48, 48, 51, 54, 49, 97, 51, 57, 54, 49, 55, 55, 97, 57, 99, 98, 52, 49, 48, 102, 102, 54, 49, 102, 50, 48, 48, 49, 53, 97, 100]⟩
abbrev jefeX : ByteArray := ⟨#[53, 98, 100, 99, 99, 49, 52, 54, 98, 102, 54, 48, 55, 53, 52, 101, 54, 97, 48, 52, 50, 52, 50, 54, 48, 56, 57, 53, 55, 53, 99, 55, 53, 97, 48, 48, 51, 102, 48, 56, 57, 100, 50, 55, 51, 57, 56, 51, 57, 100, 101, 99, 53, 56, 98, 57, 54, 52, 101, 99, 51, 56, 52, 51]⟩
theorem abc_hex : hexS (nb (ofN (dig (nb abc)))) = abcX := by
  have e : nb abc = [97, 98, 99] := rfl
  rw [nb_ofN (dig_bytes _), e, abc_is]
  rfl
theorem jefe_hex : hexS (nb (ofN (mac (nb jefe) (nb what)))) = jefeX := by
  have e : nb jefe = [74, 101, 102, 101] := rfl
  have e2 : nb what = [119, 104, 97, 116, 32, 100, 111, 32, 121, 97, 32, 119, 97, 110, 116, 32, 102, 111, 114, 32, 110, 111, 116, 104, 105, 110, 103, 63] := rfl
  have hb : Bytes (mac (nb jefe) (nb what)) := dig_bytes _
  rw [nb_ofN hb, e, e2, jefe_is]
  rfl

set_option maxRecDepth 100000 in
set_option maxHeartbeats 2000000 in
theorem works_any (T : Kit) (w : World) (hw : T.Ok w) : Calls Tryd.prog 8 #[] w fun e w' => e = .returned (.bool true) ∧ Below w.heap.size w w' := by
  obtain ⟨d1, hd1⟩ : ∃ d, ofN (dig (nb abc)) = d := ⟨_, rfl⟩
  obtain ⟨d2, hd2⟩ : ∃ d, ofN (mac (nb jefe) (nb what)) = d := ⟨_, rfl⟩
  obtain ⟨n1, hn1⟩ : ∃ n, hexE (nb d1) = n := ⟨_, rfl⟩
  obtain ⟨n2, hn2⟩ : ∃ n, hexE (nb d2) = n := ⟨_, rfl⟩
  obtain ⟨x1, hx1⟩ : ∃ x, hexS (nb d1) = x := ⟨_, rfl⟩
  obtain ⟨x2, hx2⟩ : ∃ x, hexS (nb d2) = x := ⟨_, rfl⟩
  have ex1 : x1 = abcX := by rw [← hx1, ← hd1, abc_hex]
  have ex2 : x2 = jefeX := by rw [← hx2, ← hd2, jefe_hex]
  have C1 : Hid (Calls Tryd.prog 9 #[.string abc] w fun e w' => e = .returned (.string d1) ∧ Below w.heap.size w w') := by
    have h := T.sum abc w hw (by decide)
    unfold SumR at h
    rw [hd1] at h
    exact h
  have C2 : Hid (∀ u, Below w.heap.size w u → Calls Tryd.prog 13 #[.string d1] u fun e w' => e = .returned (.tuple #[.string x1, .int .i64 n1]) ∧ Below w.heap.size w w') := fun u hu => by
    refine (T.hex d1 u (T.ok hw hu)).mono fun e w' h => ?_
    unfold HexR at h
    rw [hx1, hn1] at h
    exact ⟨h.1, hu.trans (h.2.mono hu.size)⟩
  have C3 : Hid (∀ u, Below w.heap.size w u → Calls Tryd.prog 11 #[.string jefe, .string what] u fun e w' => e = .returned (.string d2) ∧ Below w.heap.size w w') := fun u hu => by
    refine (T.mac jefe what u (T.ok hw hu) (by decide) (by decide)).mono fun e w' h => ?_
    unfold SumR at h
    rw [hd2] at h
    exact ⟨h.1, hu.trans (h.2.mono hu.size)⟩
  have C4 : Hid (∀ u, Below w.heap.size w u → Calls Tryd.prog 13 #[.string d2] u fun e w' => e = .returned (.tuple #[.string x2, .int .i64 n2]) ∧ Below w.heap.size w w') := fun u hu => by
    refine (T.hex d2 u (T.ok hw hu)).mono fun e w' h => ?_
    unfold HexR at h
    rw [hx2, hn2] at h
    exact ⟨h.1, hu.trans (h.2.mono hu.size)⟩
  have t1 : (x1.toList == [98, 97, 55, 56, 49, 54, 98, 102, 56, 102, 48, 49, 99, 102, 101, 97, 52, 49, 52, 49, 52, 48, 100, 101, 53, 100, 97, 101, 50, 50, 50, 51, 98, 48, 48, 51, 54, 49, 97, 51, 57, 54, 49, 55, 55, 97, 57, 99, 98, 52, 49, 48, 102, 102, 54, 49, 102, 50, 48, 48, 49, 53, 97, 100]) = true := by rw [ex1, Go.ByteArray.toList_eq]; rfl
  have t2 : (x2.toList == [53, 98, 100, 99, 99, 49, 52, 54, 98, 102, 54, 48, 55, 53, 52, 101, 54, 97, 48, 52, 50, 52, 50, 54, 48, 56, 57, 53, 55, 53, 99, 55, 53, 97, 48, 48, 51, 102, 48, 56, 57, 100, 50, 55, 51, 57, 56, 51, 57, 100, 101, 99, 53, 56, 98, 57, 54, 52, 101, 99, 51, 56, 52, 51]) = true := by rw [ex2, Go.ByteArray.toList_eq]; rfl
  clear hd1 hd2 hn1 hn2 hx1 hx2 ex1 ex2
  go_enter Tryd.func8, Tryd.ntmps8
  go_wp2_with fail
  refine C1.out.mono ?_
  rintro y w1 ⟨rfl, hb1⟩
  go_wp2_with fail
  refine (C2.out _ hb1).mono ?_
  rintro y w2 ⟨rfl, hb2⟩
  go_wp2_with fail
  refine (C3.out _ hb2).mono ?_
  rintro y w3 ⟨rfl, hb3⟩
  go_wp2_with fail
  refine (C4.out _ hb3).mono ?_
  rintro y w4 ⟨rfl, hb4⟩
  go_wp2_with fail
  go_ret
  exact ⟨rfl, hb4⟩
end Go.Proofs.YtfbimjhhbddfjaaDoor
