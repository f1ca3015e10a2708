/- The walk of StreamTotals. -/
import Derived.Test.YthfmppghdlniiaaSStand
import Derived.Test.YthfmppghdlniiaaSArgs
namespace Go.Proofs.Ythfmppghdlniiaa
open Go.ChangeShapes Go.WideShapes Go.ChangeAt Go.RowKit

namespace Totals

/-- a direction, how much was written into it, and read from it -/
structure Lt (d : Dr) (x y : Int) (j : Nat) : Prop where
  shut : d.shut = false
  all : x = y + (d.q.length : Int)
  read : 0 ≤ y
  size : x ≤ 1000 * (j : Int)

theorem Lt.more {d : Dr} {x y : Int} {j : Nat} (h : Lt d x y j) : Lt d x y (j + 1) := ⟨h.shut, h.all, h.read, by have := h.size; omega⟩

theorem Lt.step {d : Dr} {x y : Int} {j : Nat} (h : Lt d x y j) (ok : d.Ok) (hj : j < 100) {p : ByteArray} (hp : p.size ≤ 1000) (m1 m2 : Nat) :
    ∃ (e1 e2 e3 : Dr) (z : ByteArray) (k1 w2 h1 h3 : Nat), d.wrE p.size = 0 ∧ d.wrS p.data.toList = e1 ∧ e1.q.length - e1.here = w2 + k1 ∧ e1.here = h1 ∧ e1.arN m1 = k1 ∧ e1.arS m1 = e2 ∧ e2.q.length - e2.here = w2 ∧ e2.here = h1 + k1 ∧
      (⟨(e2.q.take (e2.rdN m2)).toArray⟩ : ByteArray) = z ∧ e2.rdS m2 = e3 ∧ e3.q.length - e3.here = w2 ∧ e3.here = h3 ∧ k1 ≤ m1 ∧ h3 + z.size = h1 + k1 ∧ (w2 : Int) + (h3 : Int) + (y + (z.size : Int)) = x + (p.size : Int) ∧ Lt e3 (x + (p.size : Int)) (y + (z.size : Int)) (j + 1) ∧ w2 + h1 + k1 ≤ 262144 ∧ 0 ≤ y ∧ 0 ≤ x ∧ x ≤ 100000 ∧ y ≤ 100000 := by
  have a1 := h.all
  have a2 := h.read
  have a3 := h.size
  have h1 := ok.here
  have h3 : ¬ 262144 < d.q.length + p.size := by omega
  have hpl : p.data.toList.length = p.size := rfl
  have e : d.wrS p.data.toList = ⟨d.q ++ p.data.toList, d.here, d.shut⟩ := by
    unfold Dr.wrS
    rw [if_neg (by rw [h.shut]; simp), if_neg (show ¬ 262144 < d.q.length + p.data.toList.length from h3)]
  have hE : d.wrE p.size = 0 := by
    unfold Dr.wrE
    rw [if_neg (by rw [h.shut]; simp), if_neg h3]
  obtain ⟨e1, he1⟩ : ∃ e1, d.wrS p.data.toList = e1 := ⟨_, rfl⟩
  have q1 : e1.q.length = d.q.length + p.size := by rw [← he1, e]; simp [hpl]
  have q2 : e1.here = d.here := by rw [← he1, e]
  have q3 : e1.shut = false := by rw [← he1, e]; exact h.shut
  have n1 : e1.arN m1 ≤ m1 := Nat.min_le_left _ _
  have n2 : e1.arN m1 ≤ e1.q.length - e1.here := Nat.min_le_right _ _
  obtain ⟨k1, hk1⟩ : ∃ k1, e1.arN m1 = k1 := ⟨_, rfl⟩
  obtain ⟨e2, he2⟩ : ∃ e2, e1.arS m1 = e2 := ⟨_, rfl⟩
  have q4 : e2.q.length = e1.q.length := by rw [← he2]; rfl
  have q5 : e2.here = e1.here + k1 := by rw [← he2, ← hk1]; rfl
  have q6 : e2.shut = false := by rw [← he2]; exact q3
  have n3 : e2.rdN m2 ≤ e2.here := Nat.min_le_right _ _
  obtain ⟨e3, he3⟩ : ∃ e3, e2.rdS m2 = e3 := ⟨_, rfl⟩
  have q7 : e3.q.length = e2.q.length - e2.rdN m2 := by rw [← he3]; exact List.length_drop
  have q8 : e3.here = e2.here - e2.rdN m2 := by rw [← he3]; rfl
  have q9 : e3.shut = false := by rw [← he3]; exact q6
  have hz : (⟨(e2.q.take (e2.rdN m2)).toArray⟩ : ByteArray).size = e2.rdN m2 := by
    show (e2.q.take (e2.rdN m2)).toArray.size = _
    rw [List.size_toArray, List.length_take]
    omega
  rw [hk1] at n1 n2
  refine ⟨e1, e2, e3, _, k1, e2.q.length - e2.here, e1.here, e3.here, hE, he1, by omega, rfl, hk1, he2, rfl, q5, rfl, he3, by omega, rfl, n1, by omega, by omega, ⟨q9, by omega, by omega, by omega⟩, by omega, by omega, by omega, by omega, by omega⟩

abbrev pc (x : PieceV) : Obj := .cells #[.int .i64 x.side, .string x.data, .int .i64 x.come, .int .i64 x.take] 38 (0, 0)
abbrev two (a b : Int) : Obj := .cells #[.int .i64 a, .int .i64 b] 48 (0, 0)

/-- what stands between two rounds -/
def Inv (w wr : World) (n b6 b7 j : Nat) : Prop := ∃ d0 d1 x0 x1 y0 y1, Stand (NetI n [d0, d1]) w wr [(b6, two x0 x1), (b7, two y0 y1)] ∧ Lt d0 x0 y0 j ∧ Lt d1 x1 y1 j

/-- within a round -/
def Own (n : Nat) (s : List Dr) (w u : World) (pb : Nat) (x : PieceV) (b6 : Nat) (x0 x1 : Int) (b7 : Nat) (y0 y1 : Int) : Prop := Stand (NetI n s) w u [(pb, pc x), (b6, two x0 x1), (b7, two y0 y1)]

section
variable {n : Nat} {s : List Dr} {w u : World} {pb : Nat} {x : PieceV} {b6 : Nat} {x0 x1 : Int} {b7 : Nat} {y0 y1 : Int}

theorem Own.cells (h : Own n s w u pb x b6 x0 x1 b7 y0 y1) :
    u.cell? ⟨pb, 1, none⟩ = some (.string x.data) ∧ u.cell? ⟨pb, 2, none⟩ = some (.int .i64 x.come) ∧ u.cell? ⟨pb, 3, none⟩ = some (.int .i64 x.take) ∧ u.cell? ⟨b6, 0, none⟩ = some (.int .i64 x0) ∧ u.cell? ⟨b6, 1, none⟩ = some (.int .i64 x1) ∧ u.cell? ⟨b7, 0, none⟩ = some (.int .i64 y0) ∧ u.cell? ⟨b7, 1, none⟩ = some (.int .i64 y1) ∧
      u.frozen? ⟨b6, 0, none⟩ = false ∧ u.frozen? ⟨b6, 1, none⟩ = false ∧ u.frozen? ⟨b7, 0, none⟩ = false ∧ u.frozen? ⟨b7, 1, none⟩ = false := by
  have h1 := Stand.at h (b := pb) (o := pc x) (by simp)
  have h2 := Stand.at h (b := b6) (o := two x0 x1) (by simp)
  have h3 := Stand.at h (b := b7) (o := two y0 y1) (by simp)
  exact ⟨by rw [cell_of h1]; rfl, by rw [cell_of h1]; rfl, by rw [cell_of h1]; rfl, by rw [cell_of h2]; rfl, by rw [cell_of h2]; rfl, by rw [cell_of h3]; rfl, by rw [cell_of h3]; rfl, frozen_of h2 _, frozen_of h2 _, frozen_of h3 _, frozen_of h3 _⟩

theorem Own.set6 (h : Own n s w u pb x b6 x0 x1 b7 y0 y1) (h1 : b6 ≠ pb) (h2 : b6 ≠ b7) (i : Nat) (z : Int) {a c : Int} (e : (#[Value.int .i64 x0, Value.int .i64 x1]).setIfInBounds i (.int .i64 z) = #[.int .i64 a, .int .i64 c]) : Own n s w (u.setCell ⟨b6, i, none⟩ (.int .i64 z)) pb x b6 a c b7 y0 y1 := by
  refine Stand.set (netI_res _ _) h (b := b6) (c := #[.int .i64 x0, .int .i64 x1]) (t := 48) (fz := (0, 0)) (by simp) i (.int .i64 z) _ (fun p hp => ?_)
  rw [e]
  simp only [List.mem_cons, List.not_mem_nil, or_false] at hp
  rcases hp with rfl | rfl | rfl
  · exact Or.inl ⟨by simp, fun e => h1 e.symm⟩
  · exact Or.inr rfl
  · exact Or.inl ⟨by simp, fun e => h2 e.symm⟩
theorem Own.set7 (h : Own n s w u pb x b6 x0 x1 b7 y0 y1) (h1 : b7 ≠ pb) (h2 : b6 ≠ b7) (i : Nat) (z : Int) {a c : Int} (e : (#[Value.int .i64 y0, Value.int .i64 y1]).setIfInBounds i (.int .i64 z) = #[.int .i64 a, .int .i64 c]) : Own n s w (u.setCell ⟨b7, i, none⟩ (.int .i64 z)) pb x b6 x0 x1 b7 a c := by
  refine Stand.set (netI_res _ _) h (b := b7) (c := #[.int .i64 y0, .int .i64 y1]) (t := 48) (fz := (0, 0)) (by simp) i (.int .i64 z) _ (fun p hp => ?_)
  rw [e]
  simp only [List.mem_cons, List.not_mem_nil, or_false] at hp
  rcases hp with rfl | rfl | rfl
  · exact Or.inl ⟨by simp, fun e => h1 e.symm⟩
  · exact Or.inl ⟨by simp, fun e => h2 e⟩
  · exact Or.inr rfl
theorem Own.drew (h : Own n s w u pb x b6 x0 x1 b7 y0 y1) : Own n s w u.drew pb x b6 x0 x1 b7 y0 y1 := Stand.below (netI_res _ _) h ((Below.refl _ _).drew)
theorem Own.drewN (h : Own n s w u pb x b6 x0 x1 b7 y0 y1) (m : Nat) : Own n s w (u.drewN m) pb x b6 x0 x1 b7 y0 y1 := Stand.drewN (netI_res _ _) h m

theorem own_pending (h : Own n s w u pb x b6 x0 x1 b7 y0 y1) (t : Nat) {d : Dr} (ht : t < 2) (hd : s[2 * 0 + t]? = some d) {a b : Nat} (ha : d.q.length - d.here = a) (hb : d.here = b) :
    Calls Try.prog 19 #[.pointer (some ⟨n, 0, none⟩), .int .i64 0, .int .i64 (t : Int)] u fun e w' => e = .returned (.tuple #[.int .i64 (a : Int), .int .i64 (b : Int), .int .i64 0]) ∧ Own n s w w' pb x b6 x0 x1 b7 y0 y1 := by
  refine (st_pending h 0 t ht hd).mono ?_
  rintro e w' ⟨rfl, hg⟩
  exact ⟨by rw [ha, hb], hg⟩
end

set_option maxRecDepth 100000 in
set_option maxHeartbeats 4000000 in
theorem walk (v0 : Value) (L : List PieceV) (w : World) (hA : SliceAt w v0 4 PieceV.en L) (_hZ : ∀ x ∈ L, x.Ok) :
    Calls Try.prog 7 #[v0] w fun e w' => e = .returned (.bool true) ∧ Below w.heap.size w w' := by
  obtain ⟨a, c, rfl, hl, hc, hx⟩ := hA
  have HX : Hid (L ≠ [] → ∃ b off, a = some ⟨b, off, none⟩ ∧ b < w.heap.size ∧ ∀ i, (h : i < L.length) → ∀ (j : Nat) (u : Value), (PieceV.en L[i])[j]? = some u → w.cell? ⟨b, off + i * 4 + j, none⟩ = some u) := hx
  unfold maxLen at hc
  clear hx
  go_enter Try.func7, Try.ntmps7
  go_wp2_with fail
  refine (st_new _).mono ?_
  rintro e u1 ⟨rfl, H1⟩
  go_wp2_with fail
  refine (works_any _).mono ?_
  rintro e u2 ⟨rfl, H2⟩
  have H3 := H1.below (netI_res _ _) H2
  clear H1 H2
  go_wp2_with fail
  refine (st_dial H3 (K := 0) rfl (by omega)).mono ?_
  rintro e u3 ⟨rfl, H4⟩
  have HS4 : Hid (Stand (NetI w.heap.size [Dr.fresh, Dr.fresh]) w u3 []) := H4
  clear H3 H4
  go_wp2_with fail
  have HI0 : Hid (Inv w ((u3.alloc (two 0 0)).alloc (two 0 0)) w.heap.size u3.heap.size (u3.heap.size + 1) 0) := by
    have h := (HS4.out.alloc (netI_res _ _) (two 0 0)).alloc (netI_res _ _) (two 0 0)
    rw [World.size_alloc] at h
    exact ⟨Dr.fresh, Dr.fresh, 0, 0, 0, 0, h.drop (fun p hp => by simp at hp; rcases hp with rfl | rfl <;> simp), ⟨rfl, rfl, Int.le_refl _, Int.le_refl _⟩, ⟨rfl, rfl, Int.le_refl _, Int.le_refl _⟩⟩
  obtain ⟨n, hn⟩ : ∃ n, w.heap.size = n := ⟨_, rfl⟩
  obtain ⟨b6, hb6⟩ : ∃ b, u3.heap.size = b := ⟨_, rfl⟩
  obtain ⟨b7, hb7⟩ : ∃ b, b6 + 1 = b := ⟨_, rfl⟩
  rw [hn, hb6, hb7] at HI0
  simp only [hn, hb6, hb7]
  have hne : b6 ≠ b7 := by omega
  clear hn hb6 hb7 HS4
  go_loopw [8] (fun i wr => ∃ j : Nat, j ≤ L.length ∧ j ≤ 100 ∧ i = .int .i64 j ∧ Inv w wr n b6 b7 j) (fun i _ => L.length - (intOf i).toNat)
  case atStart => exact ⟨0, Nat.zero_le _, Nat.zero_le _, rfl, HI0.out⟩
  case round =>
    obtain ⟨j, hj, hj2, rfl, hst⟩ := hrel
    have HI : Hid (Inv w wr n b6 b7 j) := hst
    clear hst HI0
    by_cases hlt : j < L.length
    · have hlI : (j : Int) < (L.length : Int) := by omega
      by_cases h2 : j < 100
      · have h2I : (j : Int) < 100 := by omega
        obtain ⟨b, off, rfl, hbl, hcs⟩ := HX.out (by intro e; rw [e] at hlt; simp at hlt)
        obtain ⟨d0, d1, x0, x1, y0, y1, hS, hL0, hL1⟩ := HI.out
        obtain ⟨x, hxe⟩ : ∃ x, L[j] = x := ⟨_, rfl⟩
        have q := hcs j hlt
        rw [hxe] at q
        have hbel := hS.base
        have p0 := (hbel.cell (p := ⟨b, off + j * 4, none⟩) hbl).trans (q 0 _ rfl)
        have p1 := (hbel.cell (p := ⟨b, off + j * 4 + 1, none⟩) hbl).trans (q 1 _ rfl)
        have p2 := (hbel.cell (p := ⟨b, off + j * 4 + 2, none⟩) hbl).trans (q 2 _ rfl)
        have p3 := (hbel.cell (p := ⟨b, off + j * 4 + 3, none⟩) hbl).trans (q 3 _ rfl)
        have HP : Hid (Own n [d0, d1] w (wr.alloc (pc x)) wr.heap.size x b6 x0 x1 b7 y0 y1) := hS.alloc (netI_res _ _) _
        have HL : Hid (Lt d0 x0 y0 j ∧ Lt d1 x1 y1 j) := ⟨hL0, hL1⟩
        have HK : Hid (d0.Ok ∧ d1.Ok) := ⟨stand_ok hS (by simp), stand_ok hS (by simp)⟩
        have h6 : b6 < wr.heap.size := (hS.lt (b := b6) (o := two x0 x1) (by simp)).2
        have h7 : b7 < wr.heap.size := (hS.lt (b := b7) (o := two y0 y1) (by simp)).2
        obtain ⟨pb, hpb⟩ : ∃ pb, wr.heap.size = pb := ⟨_, rfl⟩
        rw [hpb] at HP h6 h7
        clear q hbel hS hL0 hL1 hxe hcs HI
        by_cases hbig : (1000 : Int) < (x.data.size : Int)
        · go_wp2_with fail
          go_roundw
          case rel => exact ⟨j + 1, by omega, by omega, by go_num, d0, d1, x0, x1, y0, y1, Stand.drop HP.out (fun p hp => List.mem_cons_of_mem _ hp), HL.out.1.more, HL.out.2.more⟩
          case measure => simp [intOf]; omega
        · obtain ⟨t, ht, HA⟩ := among_nat x.side 2 (by omega) (by omega)
          obtain ⟨m1, hm1, HA1⟩ := among_nat x.come 50 (by omega) (by omega)
          obtain ⟨m2, hm2, HA2⟩ := among_nat x.take 50 (by omega) (by omega)
          have HB : Hid (∀ w, Calls Try.prog 13 #[.int .i64 x.side, .int .i64 2] w fun e w' => e = .returned (.int .i64 (t : Int)) ∧ w = w') := HA
          have HB1 : Hid (∀ w, Calls Try.prog 13 #[.int .i64 x.come, .int .i64 50] w fun e w' => e = .returned (.int .i64 (m1 : Int)) ∧ w = w') := HA1
          have HB2 : Hid (∀ w, Calls Try.prog 13 #[.int .i64 x.take, .int .i64 50] w fun e w' => e = .returned (.int .i64 (m2 : Int)) ∧ w = w') := HA2
          clear HA HA1 HA2
          obtain rfl | rfl : t = 0 ∨ t = 1 := by omega
          · obtain ⟨e1, e2, e3, z, k1, w2, h1, h3, E1, E2, E3, E4, E5, E6, E7, E8, E9, E10, E11, E12, E13, E14, E15, E16, E17, E18, E19, E20, E21⟩ := HL.out.2.step HK.out.2 h2 (p := x.data) (by omega) m1 m2
            have HE : Hid (d1.wrE x.data.size = 0 ∧ d1.wrS x.data.data.toList = e1 ∧ e1.q.length - e1.here = w2 + k1 ∧ e1.here = h1 ∧ e1.arN m1 = k1 ∧ e1.arS m1 = e2 ∧ e2.q.length - e2.here = w2 ∧ e2.here = h1 + k1 ∧ (⟨(e2.q.take (e2.rdN m2)).toArray⟩ : ByteArray) = z ∧ e2.rdS m2 = e3 ∧ e3.q.length - e3.here = w2 ∧ e3.here = h3) := ⟨E1, E2, E3, E4, E5, E6, E7, E8, E9, E10, E11, E12⟩
            have HLn : Hid (Lt e3 (x1 + (x.data.size : Int)) (y1 + (z.size : Int)) (j + 1)) := E16
            have hzs : z.size ≤ 262144 := by omega
            have hh3 : h3 ≤ 262144 := by omega
            have hgb : (((w2 : Int) + (h3 : Int) + (y1 + (z.size : Int))) != (x1 + (x.data.size : Int))) = false := by rw [E15]; exact bne_self_eq_false' _
            have hlast : decide (m1 < k1) = false := decide_eq_false (by omega)
            clear E1 E2 E3 E4 E5 E6 E7 E8 E9 E10 E11 E12 E14 E15 E16
            go_wp2_with fail
            refine (HB.out _).mono ?_
            rintro e u4 ⟨rfl, rfl⟩
            go_wp2_with fail
            refine (st_write HP.out 0 0 x.data (by omega) rfl HE.out.1 (s' := [d0, e1]) (by rw [← HE.out.2.1]; rfl)).mono ?_
            rintro e u5 ⟨rfl, H5⟩
            have HS5 : Hid (Own n [d0, e1] w u5 pb x b6 x0 x1 b7 y0 y1) := H5
            obtain ⟨r1, -, -, -, r2, -, -, -, r3, -, -⟩ := HS5.out.cells
            clear H5
            go_wp2_with fail
            go_region
            have HS6 : Hid (Own n [d0, e1] w (u5.setCell ⟨b6, 1, none⟩ (.int .i64 (x1 + (x.data.size : Int)))).drew pb x b6 x0 (x1 + (x.data.size : Int)) b7 y0 y1) := (HS5.out.set6 (by omega) hne 1 (x1 + (x.data.size : Int)) rfl).drew
            generalize (u5.setCell { block := b6, off := 1 } (Value.int IntKind.i64 (x1 + (x.data.size : Int)))).drew = u6 at HS6 ⊢
            clear r1 r2 r3 HS5 HP
            go_wp2_with fail
            refine (own_pending HS6.out 1 (by omega) rfl HE.out.2.2.1 HE.out.2.2.2.1).mono ?_
            rintro e u7 ⟨rfl, H7⟩
            have HS7 : Hid (Own n [d0, e1] w u7 pb x b6 x0 (x1 + (x.data.size : Int)) b7 y0 y1) := H7
            obtain ⟨-, r4, -, -, -, -, -, -, -, -, -⟩ := HS7.out.cells
            clear H7 HS6
            go_wp2_with fail
            refine (HB1.out _).mono ?_
            rintro e u8 ⟨rfl, rfl⟩
            go_wp2_with fail
            refine (st_arrive HS7.out 0 1 m1 (by omega) rfl (by omega) (k := k1) HE.out.2.2.2.2.1 (s' := [d0, e2]) (by rw [← HE.out.2.2.2.2.2.1]; rfl)).mono ?_
            rintro e u8 ⟨rfl, H8⟩
            have HS8 : Hid (Own n [d0, e2] w u8 pb x b6 x0 (x1 + (x.data.size : Int)) b7 y0 y1) := H8
            clear H8 r4 HS7
            go_wp2_with fail
            refine (own_pending HS8.out 1 (by omega) rfl HE.out.2.2.2.2.2.2.1 HE.out.2.2.2.2.2.2.2.1).mono ?_
            rintro e u9 ⟨rfl, H9⟩
            have HS9 : Hid (Own n [d0, e2] w u9 pb x b6 x0 (x1 + (x.data.size : Int)) b7 y0 y1) := H9
            obtain ⟨-, r4, r5, -, -, -, -, -, -, -, -⟩ := HS9.out.cells
            clear H9 HS8
            go_wp2_with fail
            refine (HB1.out _).mono ?_
            rintro e u10 ⟨rfl, rfl⟩
            go_wp2_with fail
            refine (HB2.out _).mono ?_
            rintro e u10 ⟨rfl, rfl⟩
            go_wp2_with fail
            refine (st_read HS9.out 0 1 m2 (by omega) rfl (by omega) (y := z) HE.out.2.2.2.2.2.2.2.2.1 (s' := [d0, e3]) (by rw [← HE.out.2.2.2.2.2.2.2.2.2.1]; rfl)).mono ?_
            rintro e u10 ⟨rfl, H10⟩
            have HS10 : Hid (Own n [d0, e3] w u10 pb x b6 x0 (x1 + (x.data.size : Int)) b7 y0 y1) := H10
            obtain ⟨-, -, -, -, -, -, r6, -, -, -, r7⟩ := HS10.out.cells
            clear H10 r4 r5 HS9
            go_wp2_with fail
            have HS11 : Hid (Own n [d0, e3] w (u10.setCell ⟨b7, 1, none⟩ (.int .i64 (y1 + (z.size : Int)))) pb x b6 x0 (x1 + (x.data.size : Int)) b7 y0 (y1 + (z.size : Int))) := HS10.out.set7 (by omega) hne 1 (y1 + (z.size : Int)) rfl
            generalize u10.setCell { block := b7, off := 1 } (Value.int IntKind.i64 (y1 + (z.size : Int))) = u11 at HS11 ⊢
            clear r6 r7 HS10
            refine (own_pending HS11.out 1 (by omega) rfl HE.out.2.2.2.2.2.2.2.2.2.2.1 HE.out.2.2.2.2.2.2.2.2.2.2.2).mono ?_
            rintro e u12 ⟨rfl, H12⟩
            have HS12 : Hid (Own n [d0, e3] w u12 pb x b6 x0 (x1 + (x.data.size : Int)) b7 y0 (y1 + (z.size : Int))) := H12
            obtain ⟨-, -, -, -, r8, -, r9, -, -, -, -⟩ := HS12.out.cells
            clear H12 HS11
            have hw1 : IntKind.i64.wrap 1 = 1 := by decide
            go_wp2_with fail
            go_quiet (fail)
            have HS11 : Hid (Own n [d0, e3] w (u12.drewN nq) pb x b6 x0 (x1 + (x.data.size : Int)) b7 y0 (y1 + (z.size : Int))) := HS12.out.drewN nq
            go_wp2
            go_roundw
            case rel => exact ⟨j + 1, by omega, by omega, by go_num, d0, e3, x0, (x1 + (x.data.size : Int)), y0, (y1 + (z.size : Int)), Stand.drop HS11.out (fun p hp => List.mem_cons_of_mem _ hp), HL.out.1.more, HLn.out⟩
            case measure => simp [intOf]; omega
          · obtain ⟨e1, e2, e3, z, k1, w2, h1, h3, E1, E2, E3, E4, E5, E6, E7, E8, E9, E10, E11, E12, E13, E14, E15, E16, E17, E18, E19, E20, E21⟩ := HL.out.1.step HK.out.1 h2 (p := x.data) (by omega) m1 m2
            have HE : Hid (d0.wrE x.data.size = 0 ∧ d0.wrS x.data.data.toList = e1 ∧ e1.q.length - e1.here = w2 + k1 ∧ e1.here = h1 ∧ e1.arN m1 = k1 ∧ e1.arS m1 = e2 ∧ e2.q.length - e2.here = w2 ∧ e2.here = h1 + k1 ∧ (⟨(e2.q.take (e2.rdN m2)).toArray⟩ : ByteArray) = z ∧ e2.rdS m2 = e3 ∧ e3.q.length - e3.here = w2 ∧ e3.here = h3) := ⟨E1, E2, E3, E4, E5, E6, E7, E8, E9, E10, E11, E12⟩
            have HLn : Hid (Lt e3 (x0 + (x.data.size : Int)) (y0 + (z.size : Int)) (j + 1)) := E16
            have hzs : z.size ≤ 262144 := by omega
            have hh3 : h3 ≤ 262144 := by omega
            have hgb : (((w2 : Int) + (h3 : Int) + (y0 + (z.size : Int))) != (x0 + (x.data.size : Int))) = false := by rw [E15]; exact bne_self_eq_false' _
            have hlast : decide (m1 < k1) = false := decide_eq_false (by omega)
            clear E1 E2 E3 E4 E5 E6 E7 E8 E9 E10 E11 E12 E14 E15 E16
            go_wp2_with fail
            refine (HB.out _).mono ?_
            rintro e u4 ⟨rfl, rfl⟩
            go_wp2_with fail
            refine (st_write HP.out 0 1 x.data (by omega) rfl HE.out.1 (s' := [e1, d1]) (by rw [← HE.out.2.1]; rfl)).mono ?_
            rintro e u5 ⟨rfl, H5⟩
            have HS5 : Hid (Own n [e1, d1] w u5 pb x b6 x0 x1 b7 y0 y1) := H5
            obtain ⟨r1, -, -, r2, -, -, -, r3, -, -, -⟩ := HS5.out.cells
            clear H5
            go_wp2_with fail
            go_region
            have HS6 : Hid (Own n [e1, d1] w (u5.setCell ⟨b6, 0, none⟩ (.int .i64 (x0 + (x.data.size : Int)))).drew pb x b6 (x0 + (x.data.size : Int)) x1 b7 y0 y1) := (HS5.out.set6 (by omega) hne 0 (x0 + (x.data.size : Int)) rfl).drew
            generalize (u5.setCell { block := b6, off := 0 } (Value.int IntKind.i64 (x0 + (x.data.size : Int)))).drew = u6 at HS6 ⊢
            clear r1 r2 r3 HS5 HP
            go_wp2_with fail
            refine (own_pending HS6.out 0 (by omega) rfl HE.out.2.2.1 HE.out.2.2.2.1).mono ?_
            rintro e u7 ⟨rfl, H7⟩
            have HS7 : Hid (Own n [e1, d1] w u7 pb x b6 (x0 + (x.data.size : Int)) x1 b7 y0 y1) := H7
            obtain ⟨-, r4, -, -, -, -, -, -, -, -, -⟩ := HS7.out.cells
            clear H7 HS6
            go_wp2_with fail
            refine (HB1.out _).mono ?_
            rintro e u8 ⟨rfl, rfl⟩
            go_wp2_with fail
            refine (st_arrive HS7.out 0 0 m1 (by omega) rfl (by omega) (k := k1) HE.out.2.2.2.2.1 (s' := [e2, d1]) (by rw [← HE.out.2.2.2.2.2.1]; rfl)).mono ?_
            rintro e u8 ⟨rfl, H8⟩
            have HS8 : Hid (Own n [e2, d1] w u8 pb x b6 (x0 + (x.data.size : Int)) x1 b7 y0 y1) := H8
            clear H8 r4 HS7
            go_wp2_with fail
            refine (own_pending HS8.out 0 (by omega) rfl HE.out.2.2.2.2.2.2.1 HE.out.2.2.2.2.2.2.2.1).mono ?_
            rintro e u9 ⟨rfl, H9⟩
            have HS9 : Hid (Own n [e2, d1] w u9 pb x b6 (x0 + (x.data.size : Int)) x1 b7 y0 y1) := H9
            obtain ⟨-, r4, r5, -, -, -, -, -, -, -, -⟩ := HS9.out.cells
            clear H9 HS8
            go_wp2_with fail
            refine (HB1.out _).mono ?_
            rintro e u10 ⟨rfl, rfl⟩
            go_wp2_with fail
            refine (HB2.out _).mono ?_
            rintro e u10 ⟨rfl, rfl⟩
            go_wp2_with fail
            refine (st_read HS9.out 0 0 m2 (by omega) rfl (by omega) (y := z) HE.out.2.2.2.2.2.2.2.2.1 (s' := [e3, d1]) (by rw [← HE.out.2.2.2.2.2.2.2.2.2.1]; rfl)).mono ?_
            rintro e u10 ⟨rfl, H10⟩
            have HS10 : Hid (Own n [e3, d1] w u10 pb x b6 (x0 + (x.data.size : Int)) x1 b7 y0 y1) := H10
            obtain ⟨-, -, -, -, -, r6, -, -, -, r7, -⟩ := HS10.out.cells
            clear H10 r4 r5 HS9
            go_wp2_with fail
            have HS11 : Hid (Own n [e3, d1] w (u10.setCell ⟨b7, 0, none⟩ (.int .i64 (y0 + (z.size : Int)))) pb x b6 (x0 + (x.data.size : Int)) x1 b7 (y0 + (z.size : Int)) y1) := HS10.out.set7 (by omega) hne 0 (y0 + (z.size : Int)) rfl
            generalize u10.setCell { block := b7, off := 0 } (Value.int IntKind.i64 (y0 + (z.size : Int))) = u11 at HS11 ⊢
            clear r6 r7 HS10
            refine (own_pending HS11.out 0 (by omega) rfl HE.out.2.2.2.2.2.2.2.2.2.2.1 HE.out.2.2.2.2.2.2.2.2.2.2.2).mono ?_
            rintro e u12 ⟨rfl, H12⟩
            have HS12 : Hid (Own n [e3, d1] w u12 pb x b6 (x0 + (x.data.size : Int)) x1 b7 (y0 + (z.size : Int)) y1) := H12
            obtain ⟨-, -, -, r8, -, r9, -, -, -, -, -⟩ := HS12.out.cells
            clear H12 HS11
            have hw1 : IntKind.i64.wrap 0 = 0 := by decide
            go_wp2_with fail
            go_quiet (fail)
            have HS11 : Hid (Own n [e3, d1] w (u12.drewN nq) pb x b6 (x0 + (x.data.size : Int)) x1 b7 (y0 + (z.size : Int)) y1) := HS12.out.drewN nq
            go_wp2
            go_roundw
            case rel => exact ⟨j + 1, by omega, by omega, by go_num, e3, d1, (x0 + (x.data.size : Int)), x1, (y0 + (z.size : Int)), y1, Stand.drop HS11.out (fun p hp => List.mem_cons_of_mem _ hp), HLn.out, HL.out.2.more⟩
            case measure => simp [intOf]; omega
      · have h2I : ¬ (j : Int) < 100 := by omega
        have HB : Hid (Below w.heap.size w wr) := by obtain ⟨_, _, _, _, _, _, h, _⟩ := HI.out; exact h.base
        go_wp2
        go_ret
        exact ⟨rfl, HB.out⟩
    · have hlI : ¬ (j : Int) < (L.length : Int) := by omega
      have HB : Hid (Below w.heap.size w wr) := by obtain ⟨_, _, _, _, _, _, h, _⟩ := HI.out; exact h.base
      go_wp2
      go_ret
      exact ⟨rfl, HB.out⟩

end Totals
end Go.Proofs.Ythfmppghdlniiaa
