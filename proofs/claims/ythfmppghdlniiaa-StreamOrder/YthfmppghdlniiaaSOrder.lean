/- The walk of StreamOrder. -/
import Derived.Test.YthfmppghdlniiaaSStand
import Derived.Test.YthfmppghdlniiaaSArgs
namespace Go.Proofs.Ythfmppghdlniiaa
open Go.ChangeShapes Go.WideShapes Go.ChangeAt Go.RowKit

namespace Order

/-- a direction, all that was written into it, all that was read from it -/
structure Ln (d : Dr) (x y : ByteArray) (j : Nat) : Prop where
  shut : d.shut = false
  all : x.data.toList = y.data.toList ++ d.q
  size : x.size ≤ 1000 * j

theorem size_list (x : ByteArray) : x.data.toList.length = x.size := rfl
theorem list_append (x y : ByteArray) : (x ++ y).data.toList = x.data.toList ++ y.data.toList := by rw [ByteArray.data_append, Array.toList_append]

theorem Ln.more {d : Dr} {x y : ByteArray} {j : Nat} (h : Ln d x y j) : Ln d x y (j + 1) := ⟨h.shut, h.all, by have := h.size; omega⟩
theorem Ln.len {d : Dr} {x y : ByteArray} {j : Nat} (h : Ln d x y j) : x.size = y.size + d.q.length := by rw [← size_list, h.all, List.length_append, size_list]

theorem Ln.write {d : Dr} {x y : ByteArray} {j : Nat} (h : Ln d x y j) (hj : j < 100) {p : ByteArray} (hp : p.size ≤ 1000) : d.wrE p.size = 0 ∧ Ln (d.wrS p.data.toList) (x ++ p) y (j + 1) := by
  have h1 := h.len
  have h2 := h.size
  have h3 : ¬ 262144 < d.q.length + p.size := by omega
  have e : d.wrS p.data.toList = ⟨d.q ++ p.data.toList, d.here, d.shut⟩ := by
    unfold Dr.wrS
    rw [if_neg (by rw [h.shut]; simp), if_neg (show ¬ 262144 < d.q.length + p.data.toList.length from h3)]
  refine ⟨?_, ?_, ?_, ?_⟩
  · unfold Dr.wrE
    rw [if_neg (by rw [h.shut]; simp), if_neg h3]
  · rw [e]; exact h.shut
  · rw [e, list_append, h.all, List.append_assoc]
  · rw [ByteArray.size_append]; omega

theorem Ln.arrive {d : Dr} {x y : ByteArray} {j : Nat} (h : Ln d x y j) (m : Nat) : Ln (d.arS m) x y j := ⟨h.shut, h.all, h.size⟩

theorem Ln.read {d : Dr} {x y : ByteArray} {j : Nat} (h : Ln d x y j) (m : Nat) : Ln (d.rdS m) x (y ++ ⟨(d.q.take (d.rdN m)).toArray⟩) j := by
  refine ⟨h.shut, ?_, h.size⟩
  rw [list_append, h.all, List.append_assoc]
  show _ = y.data.toList ++ (d.q.take (d.rdN m) ++ d.q.drop (d.rdN m))
  rw [List.take_append_drop]

/-- what was read is a beginning of what was written -/
theorem Ln.front {d : Dr} {x y : ByteArray} {j : Nat} (h : Ln d x y j) : y.size ≤ x.size ∧ (y.toList == (x.extract 0 y.size).toList) = true := by
  have h1 := h.len
  refine ⟨by omega, ?_⟩
  have e : x.extract 0 y.size = y := by
    apply ByteArray.ext
    apply Array.ext'
    rw [ByteArray.data_extract, Array.toList_extract, h.all, List.extract_eq_take_drop, List.drop_zero, Nat.sub_zero]
    exact List.take_left' rfl
  rw [e]
  exact beq_self_eq_true _

abbrev pc (x : PieceV) : Obj := .cells #[.int .i64 x.side, .string x.data, .int .i64 x.come, .int .i64 x.take] 38 (0, 0)
abbrev two (a b : ByteArray) : Obj := .cells #[.string a, .string b] 36 (0, 0)

/-- what stands between two rounds -/
def Inv (w wr : World) (n b6 b7 j : Nat) : Prop := ∃ d0 d1 x0 x1 y0 y1, Stand (NetI n [d0, d1]) w wr [(b6, two x0 x1), (b7, two y0 y1)] ∧ Ln d0 x0 y0 j ∧ Ln d1 x1 y1 j

theorem Inv.upto {w wr : World} {n b6 b7 j : Nat} (h : Inv w wr n b6 b7 j) (hj : j ≤ 100) : Inv w wr n b6 b7 100 := by
  obtain ⟨d0, d1, x0, x1, y0, y1, hS, h0, h1⟩ := h
  exact ⟨d0, d1, x0, x1, y0, y1, hS, ⟨h0.shut, h0.all, by have := h0.size; omega⟩, ⟨h1.shut, h1.all, by have := h1.size; omega⟩⟩

/-- at the end, k sides are through -/
def Fin (w wr : World) (n b6 b7 k : Nat) : Prop := ∃ d0 d1 x0 x1 y0 y1, Stand (NetI n [d0, d1]) w wr [(b6, two x0 x1), (b7, two y0 y1)] ∧ (k = 0 → Ln d0 x0 y0 100) ∧ (k ≤ 1 → Ln d1 x1 y1 100) ∧ (1 ≤ k → d0.shut = true) ∧ (2 ≤ k → d1.shut = true)

/-- a side that comes to its end: what is told of it, and what is read last -/
theorem Ln.fin {d : Dr} {x y : ByteArray} (h : Ln d x y 100) (ok : d.Ok) : ∃ (bb : Bool) (z : ByteArray) (k1 : Nat), d.clE = 0 ∧ d.clS.enV = bb ∧ (y.size == x.size) = bb ∧ d.clS.arN 262144 = k1 ∧ (⟨((d.clS.arS 262144).q.take ((d.clS.arS 262144).rdN 262144)).toArray⟩ : ByteArray) = z ∧ (d.clS.arS 262144).rdS 262144 = ⟨[], 0, true⟩ ∧ y ++ z = x ∧ y.size + z.size ≤ 100000 := by
  have hl := h.len
  have h1 := ok.here
  have h2 := ok.len
  have h3 := h.size
  have e1 : d.clS.arN 262144 = d.q.length - d.here := Nat.min_eq_right (by show d.q.length - d.here ≤ _; omega)
  have e2 : d.clS.arS 262144 = ⟨d.q, d.q.length, true⟩ := by
    unfold Dr.arS
    rw [e1]
    show Dr.mk d.q (d.here + (d.q.length - d.here)) true = _
    rw [show d.here + (d.q.length - d.here) = d.q.length from by omega]
  have e3 : (Dr.mk d.q d.q.length true).rdN 262144 = d.q.length := Nat.min_eq_right (by show d.q.length ≤ _; omega)
  have e4 : y ++ ⟨d.q.toArray⟩ = x := by
    apply ByteArray.ext
    apply Array.ext'
    rw [list_append, h.all]
  refine ⟨decide (d.q.length = 0), ⟨d.q.toArray⟩, _, ?_, ?_, ?_, rfl, ?_, ?_, e4, ?_⟩
  · unfold Dr.clE; rw [h.shut]; rfl
  · rfl
  · rw [Bool.eq_iff_iff, beq_iff_eq, decide_eq_true_iff]
    omega
  · rw [e2, e3, List.take_length]
  · rw [e2]
    unfold Dr.rdS
    rw [e3, List.drop_length, Nat.sub_self]
  · have : (⟨d.q.toArray⟩ : ByteArray).size = d.q.length := by simp [ByteArray.size]
    omega

/-- within a round -/
def Own (n : Nat) (s : List Dr) (w u : World) (pb : Nat) (x : PieceV) (b6 : Nat) (x0 x1 : ByteArray) (b7 : Nat) (y0 y1 : ByteArray) : Prop := Stand (NetI n s) w u [(pb, pc x), (b6, two x0 x1), (b7, two y0 y1)]

section
variable {n : Nat} {s : List Dr} {w u : World} {pb : Nat} {x : PieceV} {b6 : Nat} {x0 x1 : ByteArray} {b7 : Nat} {y0 y1 : ByteArray}

theorem Own.cells (h : Own n s w u pb x b6 x0 x1 b7 y0 y1) :
    u.cell? ⟨pb, 1, none⟩ = some (.string x.data) ∧ u.cell? ⟨pb, 2, none⟩ = some (.int .i64 x.come) ∧ u.cell? ⟨pb, 3, none⟩ = some (.int .i64 x.take) ∧ u.cell? ⟨b6, 0, none⟩ = some (.string x0) ∧ u.cell? ⟨b6, 1, none⟩ = some (.string x1) ∧ u.cell? ⟨b7, 0, none⟩ = some (.string y0) ∧ u.cell? ⟨b7, 1, none⟩ = some (.string y1) ∧
      u.frozen? ⟨b6, 0, none⟩ = false ∧ u.frozen? ⟨b6, 1, none⟩ = false ∧ u.frozen? ⟨b7, 0, none⟩ = false ∧ u.frozen? ⟨b7, 1, none⟩ = false := by
  have h1 := Stand.at h (b := pb) (o := pc x) (by simp)
  have h2 := Stand.at h (b := b6) (o := two x0 x1) (by simp)
  have h3 := Stand.at h (b := b7) (o := two y0 y1) (by simp)
  exact ⟨by rw [cell_of h1]; rfl, by rw [cell_of h1]; rfl, by rw [cell_of h1]; rfl, by rw [cell_of h2]; rfl, by rw [cell_of h2]; rfl, by rw [cell_of h3]; rfl, by rw [cell_of h3]; rfl, frozen_of h2 _, frozen_of h2 _, frozen_of h3 _, frozen_of h3 _⟩

theorem Own.set6 (h : Own n s w u pb x b6 x0 x1 b7 y0 y1) (h1 : b6 ≠ pb) (h2 : b6 ≠ b7) (i : Nat) (z : ByteArray) {a c : ByteArray} (e : (#[Value.string x0, Value.string x1]).setIfInBounds i (.string z) = #[.string a, .string c]) : Own n s w (u.setCell ⟨b6, i, none⟩ (.string z)) pb x b6 a c b7 y0 y1 := by
  refine Stand.set (netI_res _ _) h (b := b6) (c := #[.string x0, .string x1]) (t := 36) (fz := (0, 0)) (by simp) i (.string z) _ (fun p hp => ?_)
  rw [e]
  simp only [List.mem_cons, List.not_mem_nil, or_false] at hp
  rcases hp with rfl | rfl | rfl
  · exact Or.inl ⟨by simp, fun e => h1 e.symm⟩
  · exact Or.inr rfl
  · exact Or.inl ⟨by simp, fun e => h2 e.symm⟩
theorem Own.set7 (h : Own n s w u pb x b6 x0 x1 b7 y0 y1) (h1 : b7 ≠ pb) (h2 : b6 ≠ b7) (i : Nat) (z : ByteArray) {a c : ByteArray} (e : (#[Value.string y0, Value.string y1]).setIfInBounds i (.string z) = #[.string a, .string c]) : Own n s w (u.setCell ⟨b7, i, none⟩ (.string z)) pb x b6 x0 x1 b7 a c := by
  refine Stand.set (netI_res _ _) h (b := b7) (c := #[.string y0, .string y1]) (t := 36) (fz := (0, 0)) (by simp) i (.string z) _ (fun p hp => ?_)
  rw [e]
  simp only [List.mem_cons, List.not_mem_nil, or_false] at hp
  rcases hp with rfl | rfl | rfl
  · exact Or.inl ⟨by simp, fun e => h1 e.symm⟩
  · exact Or.inl ⟨by simp, fun e => h2 e⟩
  · exact Or.inr rfl
theorem cells2 (h : Stand (NetI n s) w u [(b6, two x0 x1), (b7, two y0 y1)]) :
    u.cell? ⟨b6, 0, none⟩ = some (.string x0) ∧ u.cell? ⟨b6, 1, none⟩ = some (.string x1) ∧ u.cell? ⟨b7, 0, none⟩ = some (.string y0) ∧ u.cell? ⟨b7, 1, none⟩ = some (.string y1) := by
  have h2 := Stand.at h (b := b6) (o := two x0 x1) (by simp)
  have h3 := Stand.at h (b := b7) (o := two y0 y1) (by simp)
  exact ⟨by rw [cell_of h2]; rfl, by rw [cell_of h2]; rfl, by rw [cell_of h3]; rfl, by rw [cell_of h3]; rfl⟩
theorem Own.drew (h : Own n s w u pb x b6 x0 x1 b7 y0 y1) : Own n s w u.drew pb x b6 x0 x1 b7 y0 y1 := Stand.below (netI_res _ _) h ((Below.refl _ _).drew)
theorem Own.drewN (h : Own n s w u pb x b6 x0 x1 b7 y0 y1) (m : Nat) : Own n s w (u.drewN m) pb x b6 x0 x1 b7 y0 y1 := Stand.drewN (netI_res _ _) h m
end

set_option maxRecDepth 100000 in
set_option maxHeartbeats 4000000 in
theorem walk (v0 : Value) (L : List PieceV) (w : World) (hA : SliceAt w v0 4 PieceV.en L) (_hZ : ∀ x ∈ L, x.Ok) :
    Calls Try.prog 5 #[v0] w fun e w' => e = .returned (.bool true) ∧ Below w.heap.size w w' := by
  obtain ⟨a, c, rfl, hl, hc, hx⟩ := hA
  have HX : Hid (L ≠ [] → ∃ b off, a = some ⟨b, off, none⟩ ∧ b < w.heap.size ∧ ∀ i, (h : i < L.length) → ∀ (j : Nat) (u : Value), (PieceV.en L[i])[j]? = some u → w.cell? ⟨b, off + i * 4 + j, none⟩ = some u) := hx
  unfold maxLen at hc
  clear hx
  go_enter Try.func5, Try.ntmps5
  go_wp2_with fail
  refine (st_new _).mono ?_
  rintro e u1 ⟨rfl, H1⟩
  go_wp2_with fail
  refine (works_any _).mono ?_
  rintro e u2 ⟨rfl, H2⟩
  have H3 := H1.below (netI_res _ _) H2
  clear H1 H2
  go_wp2_with fail
  refine (st_dial H3 (K := 0) rfl (by omega)).mono ?_
  rintro e u3 ⟨rfl, H4⟩
  have HS4 : Hid (Stand (NetI w.heap.size [Dr.fresh, Dr.fresh]) w u3 []) := H4
  clear H3 H4
  go_wp2_with fail
  have HI0 : Hid (Inv w ((u3.alloc (.cells #[.string ⟨#[]⟩, .string ⟨#[]⟩] 36 (0, 0))).alloc (.cells #[.string ⟨#[]⟩, .string ⟨#[]⟩] 36 (0, 0))) w.heap.size u3.heap.size (u3.heap.size + 1) 0) := by
    have h := (HS4.out.alloc (netI_res _ _) (.cells #[.string ⟨#[]⟩, .string ⟨#[]⟩] 36 (0, 0))).alloc (netI_res _ _) (.cells #[.string ⟨#[]⟩, .string ⟨#[]⟩] 36 (0, 0))
    rw [World.size_alloc] at h
    exact ⟨Dr.fresh, Dr.fresh, ⟨#[]⟩, ⟨#[]⟩, ⟨#[]⟩, ⟨#[]⟩, h.drop (fun p hp => by simp at hp; rcases hp with rfl | rfl <;> simp), ⟨rfl, rfl, Nat.zero_le _⟩, ⟨rfl, rfl, Nat.zero_le _⟩⟩
  obtain ⟨n, hn⟩ : ∃ n, w.heap.size = n := ⟨_, rfl⟩
  obtain ⟨b6, hb6⟩ : ∃ b, u3.heap.size = b := ⟨_, rfl⟩
  obtain ⟨b7, hb7⟩ : ∃ b, b6 + 1 = b := ⟨_, rfl⟩
  rw [hn, hb6, hb7] at HI0
  simp only [hn, hb6, hb7]
  have hne : b6 ≠ b7 := by omega
  clear hn hb6 hb7 HS4
  go_loopw [8] (fun i wr => ∃ j : Nat, j ≤ L.length ∧ j ≤ 100 ∧ i = .int .i64 j ∧ Inv w wr n b6 b7 j) (fun i _ => L.length - (intOf i).toNat)
  case atStart => exact ⟨0, Nat.zero_le _, Nat.zero_le _, rfl, HI0.out⟩
  case round =>
    obtain ⟨j, hj, hj2, rfl, hst⟩ := hrel
    have HI : Hid (Inv w wr n b6 b7 j) := hst
    clear hst HI0
    by_cases hlt : j < L.length
    · have hlI : (j : Int) < (L.length : Int) := by omega
      by_cases h2 : j < 100
      · have h2I : (j : Int) < 100 := by omega
        obtain ⟨b, off, rfl, hbl, hcs⟩ := HX.out (by intro e; rw [e] at hlt; simp at hlt)
        obtain ⟨d0, d1, x0, x1, y0, y1, hS, hL0, hL1⟩ := HI.out
        obtain ⟨x, hxe⟩ : ∃ x, L[j] = x := ⟨_, rfl⟩
        have q := hcs j hlt
        rw [hxe] at q
        have hbel := hS.base
        have p0 := (hbel.cell (p := ⟨b, off + j * 4, none⟩) hbl).trans (q 0 _ rfl)
        have p1 := (hbel.cell (p := ⟨b, off + j * 4 + 1, none⟩) hbl).trans (q 1 _ rfl)
        have p2 := (hbel.cell (p := ⟨b, off + j * 4 + 2, none⟩) hbl).trans (q 2 _ rfl)
        have p3 := (hbel.cell (p := ⟨b, off + j * 4 + 3, none⟩) hbl).trans (q 3 _ rfl)
        have HP : Hid (Own n [d0, d1] w (wr.alloc (pc x)) wr.heap.size x b6 x0 x1 b7 y0 y1) := hS.alloc (netI_res _ _) _
        have HL : Hid (Ln d0 x0 y0 j ∧ Ln d1 x1 y1 j) := ⟨hL0, hL1⟩
        have h6 : b6 < wr.heap.size := (hS.lt (b := b6) (o := two x0 x1) (by simp)).2
        have h7 : b7 < wr.heap.size := (hS.lt (b := b7) (o := two y0 y1) (by simp)).2
        obtain ⟨pb, hpb⟩ : ∃ pb, wr.heap.size = pb := ⟨_, rfl⟩
        rw [hpb] at HP h6 h7
        clear q hbel hS hL0 hL1 hxe hcs HI
        by_cases hbig : (1000 : Int) < (x.data.size : Int)
        · go_wp2_with fail
          go_roundw
          case rel => exact ⟨j + 1, by omega, by omega, by go_num, d0, d1, x0, x1, y0, y1, Stand.drop HP.out (fun p hp => List.mem_cons_of_mem _ hp), HL.out.1.more, HL.out.2.more⟩
          case measure => simp [intOf]; omega
        · obtain ⟨t, ht, HA⟩ := among_nat x.side 2 (by omega) (by omega)
          obtain ⟨m1, hm1, HA1⟩ := among_nat x.come 50 (by omega) (by omega)
          obtain ⟨m2, hm2, HA2⟩ := among_nat x.take 50 (by omega) (by omega)
          have HB : Hid (∀ w, Calls Try.prog 13 #[.int .i64 x.side, .int .i64 2] w fun e w' => e = .returned (.int .i64 (t : Int)) ∧ w = w') := HA
          have HB1 : Hid (∀ w, Calls Try.prog 13 #[.int .i64 x.come, .int .i64 50] w fun e w' => e = .returned (.int .i64 (m1 : Int)) ∧ w = w') := HA1
          have HB2 : Hid (∀ w, Calls Try.prog 13 #[.int .i64 x.take, .int .i64 50] w fun e w' => e = .returned (.int .i64 (m2 : Int)) ∧ w = w') := HA2
          clear HA HA1 HA2
          obtain rfl | rfl : t = 0 ∨ t = 1 := by omega
          · obtain ⟨e1, he1⟩ : ∃ e, d1.wrS x.data.data.toList = e := ⟨_, rfl⟩
            obtain ⟨k1, hk1⟩ : ∃ k, e1.arN m1 = k := ⟨_, rfl⟩
            obtain ⟨e2, he2⟩ : ∃ e, e1.arS m1 = e := ⟨_, rfl⟩
            obtain ⟨z, hz⟩ : ∃ z : ByteArray, (⟨(e2.q.take (e2.rdN m2)).toArray⟩ : ByteArray) = z := ⟨_, rfl⟩
            obtain ⟨e3, he3⟩ : ∃ e, e2.rdS m2 = e := ⟨_, rfl⟩
            obtain ⟨X, hX⟩ : ∃ X, x1 ++ x.data = X := ⟨_, rfl⟩
            obtain ⟨Z, hZ⟩ : ∃ Z, y1 ++ z = Z := ⟨_, rfl⟩
            have hs1 : x1.size ≤ 100000 := by have := HL.out.2.size; omega
            have HW : Hid (d1.wrE x.data.size = 0) := (HL.out.2.write h2 (by omega)).1
            have hLn : Ln e3 X Z (j + 1) := by
              rw [← he3, ← hX, ← hZ, ← hz, ← he2, ← he1]
              exact ((HL.out.2.write h2 (by omega)).2.arrive m1).read m2
            have HLn : Hid (Ln e3 X Z (j + 1)) := hLn
            have hfz : Z.size ≤ X.size := hLn.front.1
            have hfe := hLn.front.2
            have hd24 : decide (X.size < Z.size) = false := decide_eq_false (by omega)
            have hs2 : y1.size ≤ 100000 := by have := HL.out.2.len; omega
            have hs3 : z.size ≤ 1000000 := by
              have h1 := hLn.size
              have h2 : Z.size = y1.size + z.size := by rw [← hZ, ByteArray.size_append]
              omega
            have HE1 : Hid (d1.wrS x.data.data.toList = e1 ∧ e1.arN m1 = k1 ∧ e1.arS m1 = e2 ∧ (⟨(e2.q.take (e2.rdN m2)).toArray⟩ : ByteArray) = z ∧ e2.rdS m2 = e3) := ⟨he1, hk1, he2, hz, he3⟩
            clear he1 hk1 he2 hz he3 hLn
            go_wp2_with fail
            refine (HB.out _).mono ?_
            rintro e u4 ⟨rfl, rfl⟩
            go_wp2_with fail
            refine (st_write HP.out 0 0 x.data (by omega) rfl HW.out (s' := [d0, e1]) (by rw [← HE1.out.1]; rfl)).mono ?_
            rintro e u5 ⟨rfl, H5⟩
            have HS5 : Hid (Own n [d0, e1] w u5 pb x b6 x0 x1 b7 y0 y1) := H5
            obtain ⟨r1, -, -, -, r2, -, -, -, r3, -, -⟩ := HS5.out.cells
            clear H5
            go_wp2_with fail
            go_region
            have HS6 : Hid (Own n [d0, e1] w (u5.setCell ⟨b6, 1, none⟩ (.string X)).drew pb x b6 x0 X b7 y0 y1) := (HS5.out.set6 (by omega) hne 1 X rfl).drew
            generalize (u5.setCell { block := b6, off := 1 } (Value.string X)).drew = u6 at HS6 ⊢
            obtain ⟨-, r4, -, -, -, -, -, -, -, -, -⟩ := HS6.out.cells
            clear r1 r2 r3 HS5 HP
            go_wp2_with fail
            refine (HB1.out _).mono ?_
            rintro e u7 ⟨rfl, rfl⟩
            go_wp2_with fail
            refine (st_arrive HS6.out 0 1 m1 (by omega) rfl (by omega) (k := k1) HE1.out.2.1 (s' := [d0, e2]) (by rw [← HE1.out.2.2.1]; rfl)).mono ?_
            rintro e u7 ⟨rfl, H7⟩
            have HS7 : Hid (Own n [d0, e2] w u7 pb x b6 x0 X b7 y0 y1) := H7
            obtain ⟨-, -, r5, -, -, -, -, -, -, -, -⟩ := HS7.out.cells
            clear H7 r4 HS6
            go_wp2_with fail
            refine (HB2.out _).mono ?_
            rintro e u8 ⟨rfl, rfl⟩
            go_wp2_with fail
            refine (st_read HS7.out 0 1 m2 (by omega) rfl (by omega) (y := z) HE1.out.2.2.2.1 (s' := [d0, e3]) (by rw [← HE1.out.2.2.2.2]; rfl)).mono ?_
            rintro e u8 ⟨rfl, H8⟩
            have HS8 : Hid (Own n [d0, e3] w u8 pb x b6 x0 X b7 y0 y1) := H8
            obtain ⟨-, -, -, -, r6, -, r7, -, -, -, r8⟩ := HS8.out.cells
            have HS9 : Hid (Own n [d0, e3] w (u8.setCell ⟨b7, 1, none⟩ (.string Z)) pb x b6 x0 X b7 y0 Z) := HS8.out.set7 (by omega) hne 1 Z rfl
            obtain ⟨-, -, -, -, r9, -, r10, -, -, -, -⟩ := HS9.out.cells
            clear H8 r5 HS7
            go_wp2_with fail
            generalize u8.setCell { block := b7, off := 1 } (Value.string Z) = u9 at HS9 r9 r10 ⊢
            clear r6 r7 r8 HS8
            have hw1 : IntKind.i64.wrap 1 = 1 := by decide
            go_quiet (fail)
            have HS10 : Hid (Own n [d0, e3] w (u9.drewN nq) pb x b6 x0 X b7 y0 Z) := HS9.out.drewN nq
            go_wp2
            go_roundw
            case rel => exact ⟨j + 1, by omega, by omega, by go_num, d0, e3, x0, X, y0, Z, Stand.drop HS10.out (fun p hp => List.mem_cons_of_mem _ hp), HL.out.1.more, HLn.out⟩
            case measure => simp [intOf]; omega
          · obtain ⟨e1, he1⟩ : ∃ e, d0.wrS x.data.data.toList = e := ⟨_, rfl⟩
            obtain ⟨k1, hk1⟩ : ∃ k, e1.arN m1 = k := ⟨_, rfl⟩
            obtain ⟨e2, he2⟩ : ∃ e, e1.arS m1 = e := ⟨_, rfl⟩
            obtain ⟨z, hz⟩ : ∃ z : ByteArray, (⟨(e2.q.take (e2.rdN m2)).toArray⟩ : ByteArray) = z := ⟨_, rfl⟩
            obtain ⟨e3, he3⟩ : ∃ e, e2.rdS m2 = e := ⟨_, rfl⟩
            obtain ⟨X, hX⟩ : ∃ X, x0 ++ x.data = X := ⟨_, rfl⟩
            obtain ⟨Z, hZ⟩ : ∃ Z, y0 ++ z = Z := ⟨_, rfl⟩
            have hs1 : x0.size ≤ 100000 := by have := HL.out.1.size; omega
            have HW : Hid (d0.wrE x.data.size = 0) := (HL.out.1.write h2 (by omega)).1
            have hLn : Ln e3 X Z (j + 1) := by
              rw [← he3, ← hX, ← hZ, ← hz, ← he2, ← he1]
              exact ((HL.out.1.write h2 (by omega)).2.arrive m1).read m2
            have HLn : Hid (Ln e3 X Z (j + 1)) := hLn
            have hfz : Z.size ≤ X.size := hLn.front.1
            have hfe := hLn.front.2
            have hd24 : decide (X.size < Z.size) = false := decide_eq_false (by omega)
            have hs2 : y0.size ≤ 100000 := by have := HL.out.1.len; omega
            have hs3 : z.size ≤ 1000000 := by
              have h1 := hLn.size
              have h2 : Z.size = y0.size + z.size := by rw [← hZ, ByteArray.size_append]
              omega
            have HE1 : Hid (d0.wrS x.data.data.toList = e1 ∧ e1.arN m1 = k1 ∧ e1.arS m1 = e2 ∧ (⟨(e2.q.take (e2.rdN m2)).toArray⟩ : ByteArray) = z ∧ e2.rdS m2 = e3) := ⟨he1, hk1, he2, hz, he3⟩
            clear he1 hk1 he2 hz he3 hLn
            go_wp2_with fail
            refine (HB.out _).mono ?_
            rintro e u4 ⟨rfl, rfl⟩
            go_wp2_with fail
            refine (st_write HP.out 0 1 x.data (by omega) rfl HW.out (s' := [e1, d1]) (by rw [← HE1.out.1]; rfl)).mono ?_
            rintro e u5 ⟨rfl, H5⟩
            have HS5 : Hid (Own n [e1, d1] w u5 pb x b6 x0 x1 b7 y0 y1) := H5
            obtain ⟨r1, -, -, r2, -, -, -, r3, -, -, -⟩ := HS5.out.cells
            clear H5
            go_wp2_with fail
            go_region
            have HS6 : Hid (Own n [e1, d1] w (u5.setCell ⟨b6, 0, none⟩ (.string X)).drew pb x b6 X x1 b7 y0 y1) := (HS5.out.set6 (by omega) hne 0 X rfl).drew
            generalize (u5.setCell { block := b6, off := 0 } (Value.string X)).drew = u6 at HS6 ⊢
            obtain ⟨-, r4, -, -, -, -, -, -, -, -, -⟩ := HS6.out.cells
            clear r1 r2 r3 HS5 HP
            go_wp2_with fail
            refine (HB1.out _).mono ?_
            rintro e u7 ⟨rfl, rfl⟩
            go_wp2_with fail
            refine (st_arrive HS6.out 0 0 m1 (by omega) rfl (by omega) (k := k1) HE1.out.2.1 (s' := [e2, d1]) (by rw [← HE1.out.2.2.1]; rfl)).mono ?_
            rintro e u7 ⟨rfl, H7⟩
            have HS7 : Hid (Own n [e2, d1] w u7 pb x b6 X x1 b7 y0 y1) := H7
            obtain ⟨-, -, r5, -, -, -, -, -, -, -, -⟩ := HS7.out.cells
            clear H7 r4 HS6
            go_wp2_with fail
            refine (HB2.out _).mono ?_
            rintro e u8 ⟨rfl, rfl⟩
            go_wp2_with fail
            refine (st_read HS7.out 0 0 m2 (by omega) rfl (by omega) (y := z) HE1.out.2.2.2.1 (s' := [e3, d1]) (by rw [← HE1.out.2.2.2.2]; rfl)).mono ?_
            rintro e u8 ⟨rfl, H8⟩
            have HS8 : Hid (Own n [e3, d1] w u8 pb x b6 X x1 b7 y0 y1) := H8
            obtain ⟨-, -, -, r6, -, r7, -, -, -, r8, -⟩ := HS8.out.cells
            have HS9 : Hid (Own n [e3, d1] w (u8.setCell ⟨b7, 0, none⟩ (.string Z)) pb x b6 X x1 b7 Z y1) := HS8.out.set7 (by omega) hne 0 Z rfl
            obtain ⟨-, -, -, r9, -, r10, -, -, -, -, -⟩ := HS9.out.cells
            clear H8 r5 HS7
            go_wp2_with fail
            generalize u8.setCell { block := b7, off := 0 } (Value.string Z) = u9 at HS9 r9 r10 ⊢
            clear r6 r7 r8 HS8
            have hw1 : IntKind.i64.wrap 0 = 0 := by decide
            go_quiet (fail)
            have HS10 : Hid (Own n [e3, d1] w (u9.drewN nq) pb x b6 X x1 b7 Z y1) := HS9.out.drewN nq
            go_wp2
            go_roundw
            case rel => exact ⟨j + 1, by omega, by omega, by go_num, e3, d1, X, x1, Z, y1, Stand.drop HS10.out (fun p hp => List.mem_cons_of_mem _ hp), HLn.out, HL.out.2.more⟩
            case measure => simp [intOf]; omega
      · have h2I : ¬ (j : Int) < 100 := by omega
        have HE : Hid (Inv w wr n b6 b7 100) := by rw [show j = 100 from by omega] at HI; exact HI.out
        clear HI hj hj2
        obtain ⟨d0, d1, x0, x1, y0, y1, hS, hL0, hL1⟩ := HE.out
        have HS : Hid (Fin w wr n b6 b7 0) := ⟨d0, d1, x0, x1, y0, y1, hS, fun _ => hL0, fun _ => hL1, fun h => absurd h (by omega), fun h => absurd h (by omega)⟩
        clear hS hL0 hL1 HE
        go_wp2_with fail
        go_loopw [130] (fun i wr => ∃ k : Nat, k ≤ 2 ∧ i = .int .i64 k ∧ Fin w wr n b6 b7 k) (fun i _ => 2 - (intOf i).toNat)
        case atStart => exact ⟨0, Nat.zero_le _, rfl, HS.out⟩
        case round =>
          obtain ⟨k, hk, rfl, hst⟩ := hrel
          clear HS
          obtain rfl | rfl | rfl : k = 0 ∨ k = 1 ∨ k = 2 := by omega
          · obtain ⟨d0, d1, x0, x1, y0, y1, hS, hL0, hL1, h1, -⟩ := hst
            have hok := stand_ok hS (d := d0) (by simp)
            obtain ⟨bb, z, k1, E1, E2, E3, E4, E5, E6, E7, E8⟩ := Ln.fin (hL0 rfl) hok
            have HE : Hid (d0.clE = 0 ∧ d0.clS.enV = bb ∧ d0.clS.arN 262144 = k1 ∧ (⟨((d0.clS.arS 262144).q.take ((d0.clS.arS 262144).rdN 262144)).toArray⟩ : ByteArray) = z ∧ (d0.clS.arS 262144).rdS 262144 = ⟨[], 0, true⟩) := ⟨E1, E2, E4, E5, E6⟩
            have E9 : y0.size ≤ 100000 := by omega
            have E10 : z.size ≤ 100000 := by omega
            have E11 : ((y0.size : Int) == (x0.size : Int)) = bb := by
              rw [← E3, Bool.eq_iff_iff, beq_iff_eq, beq_iff_eq]
              omega
            have HO : Hid (Ln d1 x1 y1 100) := hL1 (by omega)
            have HS : Hid (Stand (NetI n [d0, d1]) w wr [(b6, two x0 x1), (b7, two y0 y1)]) := hS
            clear hS hL0 hL1 h1 hok E1 E2 E4 E5 E6 E8
            go_wp2_with fail
            refine (st_close HS.out 0 1 (by omega) rfl HE.out.1 (s' := [d0.clS, d1]) rfl).mono ?_
            rintro e v1 ⟨rfl, H1⟩
            have HS1 : Hid (Stand (NetI n [d0.clS, d1]) w v1 [(b6, two x0 x1), (b7, two y0 y1)]) := H1
            clear H1 HS
            go_wp2_with fail
            refine (st_ended HS1.out 0 0 (by omega) rfl HE.out.2.1).mono ?_
            rintro e v2 ⟨rfl, H2⟩
            have HS2 : Hid (Stand (NetI n [d0.clS, d1]) w v2 [(b6, two x0 x1), (b7, two y0 y1)]) := H2
            obtain ⟨q1, -, q2, -⟩ := cells2 HS2.out
            clear H2 HS1
            cases bb
            all_goals
              go_wp2_with fail
              go_quiet (fail)
              have HS3 : Hid (Stand (NetI n [d0.clS, d1]) w (v2.drewN nq) [(b6, two x0 x1), (b7, two y0 y1)]) := HS2.out.drewN (netI_res _ _) nq
              generalize v2.drewN nq = v3 at HS3 ⊢
              clear q1 q2 HS2
              go_wp2_with fail
              refine (st_arrive HS3.out 0 0 262144 (by omega) rfl (by omega) HE.out.2.2.1 rfl).mono ?_
              rintro e v4 ⟨rfl, H4⟩
              have HS4 : Hid (Stand (NetI n [d0.clS.arS 262144, d1]) w v4 [(b6, two x0 x1), (b7, two y0 y1)]) := H4
              clear H4 HS3
              go_wp2_with fail
              refine (st_read HS4.out 0 0 262144 (by omega) rfl (by omega) HE.out.2.2.2.1 (s' := [⟨[], 0, true⟩, d1]) (by rw [← HE.out.2.2.2.2]; rfl)).mono ?_
              rintro e v5 ⟨rfl, H5⟩
              have HS5 : Hid (Stand (NetI n [⟨[], 0, true⟩, d1]) w v5 [(b6, two x0 x1), (b7, two y0 y1)]) := H5
              clear H5 HS4
              go_wp2_with fail
              refine (st_ended HS5.out 0 0 (by omega) rfl (b := true) rfl).mono ?_
              rintro e v6 ⟨rfl, H6⟩
              have HS6 : Hid (Stand (NetI n [⟨[], 0, true⟩, d1]) w v6 [(b6, two x0 x1), (b7, two y0 y1)]) := H6
              obtain ⟨q1, -, q2, -⟩ := cells2 HS6.out
              clear H6 HS5
              go_wp2_with fail
              go_quiet (fail)
              have HS7 : Hid (Stand (NetI n [⟨[], 0, true⟩, d1]) w (v6.drewN nq) [(b6, two x0 x1), (b7, two y0 y1)]) := HS6.out.drewN (netI_res _ _) nq
              go_wp2
              go_roundw
              case rel => exact ⟨1, by omega, rfl, ⟨[], 0, true⟩, d1, x0, x1, y0, y1, HS7.out, fun h => absurd h (by omega), fun _ => HO.out, fun _ => rfl, fun h => absurd h (by omega)⟩
              case measure => simp [intOf]
          · obtain ⟨d0, d1, x0, x1, y0, y1, hS, hL0, hL1, h1, -⟩ := hst
            have hok := stand_ok hS (d := d1) (by simp)
            obtain ⟨bb, z, k1, E1, E2, E3, E4, E5, E6, E7, E8⟩ := Ln.fin (hL1 (Nat.le_refl _)) hok
            have HE : Hid (d1.clE = 0 ∧ d1.clS.enV = bb ∧ d1.clS.arN 262144 = k1 ∧ (⟨((d1.clS.arS 262144).q.take ((d1.clS.arS 262144).rdN 262144)).toArray⟩ : ByteArray) = z ∧ (d1.clS.arS 262144).rdS 262144 = ⟨[], 0, true⟩) := ⟨E1, E2, E4, E5, E6⟩
            have E9 : y1.size ≤ 100000 := by omega
            have E10 : z.size ≤ 100000 := by omega
            have E11 : ((y1.size : Int) == (x1.size : Int)) = bb := by
              rw [← E3, Bool.eq_iff_iff, beq_iff_eq, beq_iff_eq]
              omega
            have HO : Hid (d0.shut = true) := h1 (Nat.le_refl _)
            have HS : Hid (Stand (NetI n [d0, d1]) w wr [(b6, two x0 x1), (b7, two y0 y1)]) := hS
            clear hS hL0 hL1 h1 hok E1 E2 E4 E5 E6 E8
            go_wp2_with fail
            refine (st_close HS.out 0 0 (by omega) rfl HE.out.1 (s' := [d0, d1.clS]) rfl).mono ?_
            rintro e v1 ⟨rfl, H1⟩
            have HS1 : Hid (Stand (NetI n [d0, d1.clS]) w v1 [(b6, two x0 x1), (b7, two y0 y1)]) := H1
            clear H1 HS
            go_wp2_with fail
            refine (st_ended HS1.out 0 1 (by omega) rfl HE.out.2.1).mono ?_
            rintro e v2 ⟨rfl, H2⟩
            have HS2 : Hid (Stand (NetI n [d0, d1.clS]) w v2 [(b6, two x0 x1), (b7, two y0 y1)]) := H2
            obtain ⟨-, q1, -, q2⟩ := cells2 HS2.out
            clear H2 HS1
            cases bb
            all_goals
              go_wp2_with fail
              go_quiet (fail)
              have HS3 : Hid (Stand (NetI n [d0, d1.clS]) w (v2.drewN nq) [(b6, two x0 x1), (b7, two y0 y1)]) := HS2.out.drewN (netI_res _ _) nq
              generalize v2.drewN nq = v3 at HS3 ⊢
              clear q1 q2 HS2
              go_wp2_with fail
              refine (st_arrive HS3.out 0 1 262144 (by omega) rfl (by omega) HE.out.2.2.1 rfl).mono ?_
              rintro e v4 ⟨rfl, H4⟩
              have HS4 : Hid (Stand (NetI n [d0, d1.clS.arS 262144]) w v4 [(b6, two x0 x1), (b7, two y0 y1)]) := H4
              clear H4 HS3
              go_wp2_with fail
              refine (st_read HS4.out 0 1 262144 (by omega) rfl (by omega) HE.out.2.2.2.1 (s' := [d0, ⟨[], 0, true⟩]) (by rw [← HE.out.2.2.2.2]; rfl)).mono ?_
              rintro e v5 ⟨rfl, H5⟩
              have HS5 : Hid (Stand (NetI n [d0, ⟨[], 0, true⟩]) w v5 [(b6, two x0 x1), (b7, two y0 y1)]) := H5
              clear H5 HS4
              go_wp2_with fail
              refine (st_ended HS5.out 0 1 (by omega) rfl (b := true) rfl).mono ?_
              rintro e v6 ⟨rfl, H6⟩
              have HS6 : Hid (Stand (NetI n [d0, ⟨[], 0, true⟩]) w v6 [(b6, two x0 x1), (b7, two y0 y1)]) := H6
              obtain ⟨-, q1, -, q2⟩ := cells2 HS6.out
              clear H6 HS5
              go_wp2_with fail
              go_quiet (fail)
              have HS7 : Hid (Stand (NetI n [d0, ⟨[], 0, true⟩]) w (v6.drewN nq) [(b6, two x0 x1), (b7, two y0 y1)]) := HS6.out.drewN (netI_res _ _) nq
              go_wp2
              go_roundw
              case rel => exact ⟨2, by omega, rfl, d0, ⟨[], 0, true⟩, x0, x1, y0, y1, HS7.out, fun h => absurd h (by omega), fun h => absurd h (by omega), fun _ => HO.out, fun _ => rfl⟩
              case measure => simp [intOf]
          · obtain ⟨d0, d1, x0, x1, y0, y1, hS, -, -, h0, h1⟩ := hst
            have HS : Hid (Stand (NetI n [d0, d1]) w wr [(b6, two x0 x1), (b7, two y0 y1)]) := hS
            have HE : Hid (∀ y : ByteArray, d1.wrE y.size = 20 ∧ d1.wrS y.data.toList = d1 ∧ d0.wrE y.size = 20 ∧ d0.wrS y.data.toList = d0) := fun y => ⟨by unfold Dr.wrE; rw [h1 (by omega)]; rfl, by unfold Dr.wrS; rw [h1 (by omega)]; rfl, by unfold Dr.wrE; rw [h0 (by omega)]; rfl, by unfold Dr.wrS; rw [h0 (by omega)]; rfl⟩
            clear hS h0 h1
            go_wp2_with fail
            refine (st_write HS.out 0 0 ⟨#[]⟩ (by omega) rfl (HE.out _).1 (s' := [d0, d1]) (by rw [(HE.out _).2.1]; rfl)).mono ?_
            rintro e v1 ⟨rfl, H1⟩
            have HS1 : Hid (Stand (NetI n [d0, d1]) w v1 [(b6, two x0 x1), (b7, two y0 y1)]) := H1
            clear H1 HS
            go_wp2_with fail
            refine (st_write HS1.out 0 1 ⟨#[]⟩ (by omega) rfl (HE.out _).2.2.1 (s' := [d0, d1]) (by rw [(HE.out _).2.2.2]; rfl)).mono ?_
            rintro e v2 ⟨rfl, H2⟩
            go_wp2_with fail
            go_ret
            exact ⟨rfl, H2.base⟩
    · have hlI : ¬ (j : Int) < (L.length : Int) := by omega
      have HE : Hid (Inv w wr n b6 b7 100) := HI.out.upto hj2
      clear HI hj hj2
      obtain ⟨d0, d1, x0, x1, y0, y1, hS, hL0, hL1⟩ := HE.out
      have HS : Hid (Fin w wr n b6 b7 0) := ⟨d0, d1, x0, x1, y0, y1, hS, fun _ => hL0, fun _ => hL1, fun h => absurd h (by omega), fun h => absurd h (by omega)⟩
      clear hS hL0 hL1 HE
      go_wp2_with fail
      go_loopw [130] (fun i wr => ∃ k : Nat, k ≤ 2 ∧ i = .int .i64 k ∧ Fin w wr n b6 b7 k) (fun i _ => 2 - (intOf i).toNat)
      case atStart => exact ⟨0, Nat.zero_le _, rfl, HS.out⟩
      case round =>
        obtain ⟨k, hk, rfl, hst⟩ := hrel
        clear HS
        obtain rfl | rfl | rfl : k = 0 ∨ k = 1 ∨ k = 2 := by omega
        · obtain ⟨d0, d1, x0, x1, y0, y1, hS, hL0, hL1, h1, -⟩ := hst
          have hok := stand_ok hS (d := d0) (by simp)
          obtain ⟨bb, z, k1, E1, E2, E3, E4, E5, E6, E7, E8⟩ := Ln.fin (hL0 rfl) hok
          have HE : Hid (d0.clE = 0 ∧ d0.clS.enV = bb ∧ d0.clS.arN 262144 = k1 ∧ (⟨((d0.clS.arS 262144).q.take ((d0.clS.arS 262144).rdN 262144)).toArray⟩ : ByteArray) = z ∧ (d0.clS.arS 262144).rdS 262144 = ⟨[], 0, true⟩) := ⟨E1, E2, E4, E5, E6⟩
          have E9 : y0.size ≤ 100000 := by omega
          have E10 : z.size ≤ 100000 := by omega
          have E11 : ((y0.size : Int) == (x0.size : Int)) = bb := by
            rw [← E3, Bool.eq_iff_iff, beq_iff_eq, beq_iff_eq]
            omega
          have HO : Hid (Ln d1 x1 y1 100) := hL1 (by omega)
          have HS : Hid (Stand (NetI n [d0, d1]) w wr [(b6, two x0 x1), (b7, two y0 y1)]) := hS
          clear hS hL0 hL1 h1 hok E1 E2 E4 E5 E6 E8
          go_wp2_with fail
          refine (st_close HS.out 0 1 (by omega) rfl HE.out.1 (s' := [d0.clS, d1]) rfl).mono ?_
          rintro e v1 ⟨rfl, H1⟩
          have HS1 : Hid (Stand (NetI n [d0.clS, d1]) w v1 [(b6, two x0 x1), (b7, two y0 y1)]) := H1
          clear H1 HS
          go_wp2_with fail
          refine (st_ended HS1.out 0 0 (by omega) rfl HE.out.2.1).mono ?_
          rintro e v2 ⟨rfl, H2⟩
          have HS2 : Hid (Stand (NetI n [d0.clS, d1]) w v2 [(b6, two x0 x1), (b7, two y0 y1)]) := H2
          obtain ⟨q1, -, q2, -⟩ := cells2 HS2.out
          clear H2 HS1
          cases bb
          all_goals
            go_wp2_with fail
            go_quiet (fail)
            have HS3 : Hid (Stand (NetI n [d0.clS, d1]) w (v2.drewN nq) [(b6, two x0 x1), (b7, two y0 y1)]) := HS2.out.drewN (netI_res _ _) nq
            generalize v2.drewN nq = v3 at HS3 ⊢
            clear q1 q2 HS2
            go_wp2_with fail
            refine (st_arrive HS3.out 0 0 262144 (by omega) rfl (by omega) HE.out.2.2.1 rfl).mono ?_
            rintro e v4 ⟨rfl, H4⟩
            have HS4 : Hid (Stand (NetI n [d0.clS.arS 262144, d1]) w v4 [(b6, two x0 x1), (b7, two y0 y1)]) := H4
            clear H4 HS3
            go_wp2_with fail
            refine (st_read HS4.out 0 0 262144 (by omega) rfl (by omega) HE.out.2.2.2.1 (s' := [⟨[], 0, true⟩, d1]) (by rw [← HE.out.2.2.2.2]; rfl)).mono ?_
            rintro e v5 ⟨rfl, H5⟩
            have HS5 : Hid (Stand (NetI n [⟨[], 0, true⟩, d1]) w v5 [(b6, two x0 x1), (b7, two y0 y1)]) := H5
            clear H5 HS4
            go_wp2_with fail
            refine (st_ended HS5.out 0 0 (by omega) rfl (b := true) rfl).mono ?_
            rintro e v6 ⟨rfl, H6⟩
            have HS6 : Hid (Stand (NetI n [⟨[], 0, true⟩, d1]) w v6 [(b6, two x0 x1), (b7, two y0 y1)]) := H6
            obtain ⟨q1, -, q2, -⟩ := cells2 HS6.out
            clear H6 HS5
            go_wp2_with fail
            go_quiet (fail)
            have HS7 : Hid (Stand (NetI n [⟨[], 0, true⟩, d1]) w (v6.drewN nq) [(b6, two x0 x1), (b7, two y0 y1)]) := HS6.out.drewN (netI_res _ _) nq
            go_wp2
            go_roundw
            case rel => exact ⟨1, by omega, rfl, ⟨[], 0, true⟩, d1, x0, x1, y0, y1, HS7.out, fun h => absurd h (by omega), fun _ => HO.out, fun _ => rfl, fun h => absurd h (by omega)⟩
            case measure => simp [intOf]
        · obtain ⟨d0, d1, x0, x1, y0, y1, hS, hL0, hL1, h1, -⟩ := hst
          have hok := stand_ok hS (d := d1) (by simp)
          obtain ⟨bb, z, k1, E1, E2, E3, E4, E5, E6, E7, E8⟩ := Ln.fin (hL1 (Nat.le_refl _)) hok
          have HE : Hid (d1.clE = 0 ∧ d1.clS.enV = bb ∧ d1.clS.arN 262144 = k1 ∧ (⟨((d1.clS.arS 262144).q.take ((d1.clS.arS 262144).rdN 262144)).toArray⟩ : ByteArray) = z ∧ (d1.clS.arS 262144).rdS 262144 = ⟨[], 0, true⟩) := ⟨E1, E2, E4, E5, E6⟩
          have E9 : y1.size ≤ 100000 := by omega
          have E10 : z.size ≤ 100000 := by omega
          have E11 : ((y1.size : Int) == (x1.size : Int)) = bb := by
            rw [← E3, Bool.eq_iff_iff, beq_iff_eq, beq_iff_eq]
            omega
          have HO : Hid (d0.shut = true) := h1 (Nat.le_refl _)
          have HS : Hid (Stand (NetI n [d0, d1]) w wr [(b6, two x0 x1), (b7, two y0 y1)]) := hS
          clear hS hL0 hL1 h1 hok E1 E2 E4 E5 E6 E8
          go_wp2_with fail
          refine (st_close HS.out 0 0 (by omega) rfl HE.out.1 (s' := [d0, d1.clS]) rfl).mono ?_
          rintro e v1 ⟨rfl, H1⟩
          have HS1 : Hid (Stand (NetI n [d0, d1.clS]) w v1 [(b6, two x0 x1), (b7, two y0 y1)]) := H1
          clear H1 HS
          go_wp2_with fail
          refine (st_ended HS1.out 0 1 (by omega) rfl HE.out.2.1).mono ?_
          rintro e v2 ⟨rfl, H2⟩
          have HS2 : Hid (Stand (NetI n [d0, d1.clS]) w v2 [(b6, two x0 x1), (b7, two y0 y1)]) := H2
          obtain ⟨-, q1, -, q2⟩ := cells2 HS2.out
          clear H2 HS1
          cases bb
          all_goals
            go_wp2_with fail
            go_quiet (fail)
            have HS3 : Hid (Stand (NetI n [d0, d1.clS]) w (v2.drewN nq) [(b6, two x0 x1), (b7, two y0 y1)]) := HS2.out.drewN (netI_res _ _) nq
            generalize v2.drewN nq = v3 at HS3 ⊢
            clear q1 q2 HS2
            go_wp2_with fail
            refine (st_arrive HS3.out 0 1 262144 (by omega) rfl (by omega) HE.out.2.2.1 rfl).mono ?_
            rintro e v4 ⟨rfl, H4⟩
            have HS4 : Hid (Stand (NetI n [d0, d1.clS.arS 262144]) w v4 [(b6, two x0 x1), (b7, two y0 y1)]) := H4
            clear H4 HS3
            go_wp2_with fail
            refine (st_read HS4.out 0 1 262144 (by omega) rfl (by omega) HE.out.2.2.2.1 (s' := [d0, ⟨[], 0, true⟩]) (by rw [← HE.out.2.2.2.2]; rfl)).mono ?_
            rintro e v5 ⟨rfl, H5⟩
            have HS5 : Hid (Stand (NetI n [d0, ⟨[], 0, true⟩]) w v5 [(b6, two x0 x1), (b7, two y0 y1)]) := H5
            clear H5 HS4
            go_wp2_with fail
            refine (st_ended HS5.out 0 1 (by omega) rfl (b := true) rfl).mono ?_
            rintro e v6 ⟨rfl, H6⟩
            have HS6 : Hid (Stand (NetI n [d0, ⟨[], 0, true⟩]) w v6 [(b6, two x0 x1), (b7, two y0 y1)]) := H6
            obtain ⟨-, q1, -, q2⟩ := cells2 HS6.out
            clear H6 HS5
            go_wp2_with fail
            go_quiet (fail)
            have HS7 : Hid (Stand (NetI n [d0, ⟨[], 0, true⟩]) w (v6.drewN nq) [(b6, two x0 x1), (b7, two y0 y1)]) := HS6.out.drewN (netI_res _ _) nq
            go_wp2
            go_roundw
            case rel => exact ⟨2, by omega, rfl, d0, ⟨[], 0, true⟩, x0, x1, y0, y1, HS7.out, fun h => absurd h (by omega), fun h => absurd h (by omega), fun _ => HO.out, fun _ => rfl⟩
            case measure => simp [intOf]
        · obtain ⟨d0, d1, x0, x1, y0, y1, hS, -, -, h0, h1⟩ := hst
          have HS : Hid (Stand (NetI n [d0, d1]) w wr [(b6, two x0 x1), (b7, two y0 y1)]) := hS
          have HE : Hid (∀ y : ByteArray, d1.wrE y.size = 20 ∧ d1.wrS y.data.toList = d1 ∧ d0.wrE y.size = 20 ∧ d0.wrS y.data.toList = d0) := fun y => ⟨by unfold Dr.wrE; rw [h1 (by omega)]; rfl, by unfold Dr.wrS; rw [h1 (by omega)]; rfl, by unfold Dr.wrE; rw [h0 (by omega)]; rfl, by unfold Dr.wrS; rw [h0 (by omega)]; rfl⟩
          clear hS h0 h1
          go_wp2_with fail
          refine (st_write HS.out 0 0 ⟨#[]⟩ (by omega) rfl (HE.out _).1 (s' := [d0, d1]) (by rw [(HE.out _).2.1]; rfl)).mono ?_
          rintro e v1 ⟨rfl, H1⟩
          have HS1 : Hid (Stand (NetI n [d0, d1]) w v1 [(b6, two x0 x1), (b7, two y0 y1)]) := H1
          clear H1 HS
          go_wp2_with fail
          refine (st_write HS1.out 0 1 ⟨#[]⟩ (by omega) rfl (HE.out _).2.2.1 (s' := [d0, d1]) (by rw [(HE.out _).2.2.2]; rfl)).mono ?_
          rintro e v2 ⟨rfl, H2⟩
          go_wp2_with fail
          go_ret
          exact ⟨rfl, H2.base⟩

end Order
end Go.Proofs.Ythfmppghdlniiaa
