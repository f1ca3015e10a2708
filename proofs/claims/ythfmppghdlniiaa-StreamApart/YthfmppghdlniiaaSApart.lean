/- The walk of StreamApart. -/
import Derived.Test.YthfmppghdlniiaaSSlot
import Derived.Test.YthfmppghdlniiaaSArgs
import Derived.Deep.RegionHeld3
namespace Go.Proofs.Ythfmppghdlniiaa
open Go.ChangeShapes Go.WideShapes Go.ChangeAt Go.RowKit

namespace Apart

abbrev pc (x : PieceV) : Obj := .cells #[.int .i64 x.side, .string x.data, .int .i64 x.come, .int .i64 x.take] 38 (0, 0)

/-- the net a has one connection more than b -/
def Own (a b : Nat) (s t : List Dr) (w u : World) (pb : Nat) (x : PieceV) : Prop := Stand (Sep (NetI a s) (NetI b t)) w u [(pb, pc x)]
def Inv (a b : Nat) (w u : World) : Prop := ∃ d0 d1 c0 c1, Stand (Sep (NetI a [d0, d1, c0, c1]) (NetI b [d0, d1])) w u []

theorem res (a b : Nat) (s t : List Dr) : Res (Sep (NetI a s) (NetI b t)) := Sep.res (netI_res _ _) (netI_res _ _)
theorem slotA (a b : Nat) (t : List Dr) (w : World) (pb : Nat) (x : PieceV) : Slot a (fun s u => Own a b s t w u pb x) := slot_sep (netI_res _ _) a w _
theorem slotB (a b : Nat) (s : List Dr) (w : World) (pb : Nat) (x : PieceV) : Slot b (fun t u => Own a b s t w u pb x) := slot_sep2 (netI_res _ _) b w _
theorem slotA0 (a b : Nat) (t : List Dr) (w : World) : Slot a (fun s u => Stand (Sep (NetI a s) (NetI b t)) w u []) := slot_sep (netI_res _ _) a w _
theorem slotB0 (a b : Nat) (s : List Dr) (w : World) : Slot b (fun t u => Stand (Sep (NetI a s) (NetI b t)) w u []) := slot_sep2 (netI_res _ _) b w _

section
variable {a b : Nat} {s t : List Dr} {w u : World} {pb : Nat} {x : PieceV}
theorem Own.cells (h : Own a b s t w u pb x) : u.cell? ⟨pb, 1, none⟩ = some (.string x.data) ∧ u.cell? ⟨pb, 2, none⟩ = some (.int .i64 x.come) ∧ u.cell? ⟨pb, 3, none⟩ = some (.int .i64 x.take) := by
  have h1 := Stand.at h (b := pb) (o := pc x) (by simp)
  exact ⟨by rw [cell_of h1]; rfl, by rw [cell_of h1]; rfl, by rw [cell_of h1]; rfl⟩
theorem Own.drewN (h : Own a b s t w u pb x) (m : Nat) : Own a b s t w (u.drewN m) pb x := Stand.drewN (res _ _ _ _) h m
end

set_option maxRecDepth 100000 in
set_option maxHeartbeats 4000000 in
theorem walk (v0 : Value) (L : List PieceV) (w : World) (hA : SliceAt w v0 4 PieceV.en L) (_hZ : ∀ x ∈ L, x.Ok) :
    Calls Try.prog 6 #[v0] w fun e w' => e = .returned (.bool true) ∧ Below w.heap.size w w' := by
  obtain ⟨a, c, rfl, hl, hc, hx⟩ := hA
  have HX : Hid (L ≠ [] → ∃ b off, a = some ⟨b, off, none⟩ ∧ b < w.heap.size ∧ ∀ i, (h : i < L.length) → ∀ (j : Nat) (u : Value), (PieceV.en L[i])[j]? = some u → w.cell? ⟨b, off + i * 4 + j, none⟩ = some u) := hx
  unfold maxLen at hc
  clear hx
  go_enter Try.func6, Try.ntmps6
  go_wp2_with fail
  refine (new_any w).mono ?_
  rintro e u1 ⟨rfl, H1, B1⟩
  go_wp2_with fail
  refine (new_any u1).mono ?_
  rintro e u2 ⟨rfl, H2, B2⟩
  have HS2 : Hid (Stand (Sep (NetI w.heap.size []) (NetI u1.heap.size [])) w u2 []) := by
    have l1 : w.heap.size < u1.heap.size := (netI_res _ _).lt H1 _ rfl
    refine Stand.start (Sep.mk ((netI_res _ _).kept (S := fun _ => False) H1 (Turn.ofBelow _ B2) (fun _ _ h => h)) H2 (fun i hi hj => by omega)) (fun i hi => by omega) (B1.trans (B2.mono B1.size))
  clear H1 B1 H2 B2
  obtain ⟨pa, hpa⟩ : ∃ n, w.heap.size = n := ⟨_, rfl⟩
  obtain ⟨pn, hpn⟩ : ∃ n, u1.heap.size = n := ⟨_, rfl⟩
  rw [hpa, hpn] at HS2
  simp only [hpa, hpn]
  clear hpa hpn
  go_wp2_with fail
  refine (works_any _).mono ?_
  rintro e u3 ⟨rfl, B3⟩
  have HS3 : Hid (Stand (Sep (NetI pa []) (NetI pn [])) w u3 []) := HS2.out.below (res _ _ _ _) B3
  clear B3 HS2
  go_wp2_with fail
  refine (sl_dial (slotA0 pa pn [] w) HS3.out (K := 0) rfl (by omega)).mono ?_
  rintro e u4 ⟨rfl, H4⟩
  have HS4 : Hid (Stand (Sep (NetI pa [Dr.fresh, Dr.fresh]) (NetI pn [])) w u4 []) := H4
  clear H4 HS3
  go_wp2_with fail
  refine (sl_dial (slotA0 pa pn [] w) HS4.out (K := 1) rfl (by omega)).mono ?_
  rintro e u5 ⟨rfl, H5⟩
  have HS5 : Hid (Stand (Sep (NetI pa [Dr.fresh, Dr.fresh, Dr.fresh, Dr.fresh]) (NetI pn [])) w u5 []) := H5
  clear H5 HS4
  go_wp2_with fail
  refine (sl_dial (slotB0 pa pn _ w) HS5.out (K := 0) rfl (by omega)).mono ?_
  rintro e u6 ⟨rfl, H6⟩
  have HI0 : Hid (Inv pa pn w u6) := ⟨_, _, _, _, H6⟩
  clear H6 HS5
  go_wp2_with fail
  go_loopw [5] (fun i wr => ∃ j : Nat, j ≤ L.length ∧ j ≤ 60 ∧ i = .int .i64 j ∧ Inv pa pn w wr) (fun i _ => L.length - (intOf i).toNat)
  case atStart => exact ⟨0, Nat.zero_le _, Nat.zero_le _, rfl, HI0.out⟩
  case round =>
    obtain ⟨j, hj, hj2, rfl, hst⟩ := hrel
    have HI : Hid (Inv pa pn w wr) := hst
    clear hst HI0
    by_cases hlt : j < L.length
    · have hlI : (j : Int) < (L.length : Int) := by omega
      by_cases h2 : j < 60
      · have h2I : (j : Int) < 60 := by omega
        obtain ⟨b, off, rfl, hbl, hcs⟩ := HX.out (by intro e; rw [e] at hlt; simp at hlt)
        obtain ⟨d0, d1, c0, c1, hS⟩ := HI.out
        obtain ⟨x, hxe⟩ : ∃ x, L[j] = x := ⟨_, rfl⟩
        have q := hcs j hlt
        rw [hxe] at q
        have hbel := hS.base
        have p0 := (hbel.cell (p := ⟨b, off + j * 4, none⟩) hbl).trans (q 0 _ rfl)
        have p1 := (hbel.cell (p := ⟨b, off + j * 4 + 1, none⟩) hbl).trans (q 1 _ rfl)
        have p2 := (hbel.cell (p := ⟨b, off + j * 4 + 2, none⟩) hbl).trans (q 2 _ rfl)
        have p3 := (hbel.cell (p := ⟨b, off + j * 4 + 3, none⟩) hbl).trans (q 3 _ rfl)
        have HP : Hid (Own pa pn [d0, d1, c0, c1] [d0, d1] w (wr.alloc (pc x)) wr.heap.size x) := hS.alloc (res _ _ _ _) _
        obtain ⟨pb, hpb⟩ : ∃ pb, wr.heap.size = pb := ⟨_, rfl⟩
        rw [hpb] at HP
        clear q hbel hS hxe hcs HI
        by_cases hbig : (1000 : Int) < (x.data.size : Int)
        · go_wp2_with fail
          go_roundw
          case rel => exact ⟨j + 1, by omega, by omega, by go_num, d0, d1, c0, c1, Stand.drop HP.out (fun p hp => List.mem_cons_of_mem _ hp)⟩
          case measure => simp [intOf]; omega
        · obtain ⟨t, ht, HA⟩ := among_nat x.side 2 (by omega) (by omega)
          obtain ⟨m1, hm1, HA1⟩ := among_nat x.come 50 (by omega) (by omega)
          obtain ⟨m2, hm2, HA2⟩ := among_nat x.take 50 (by omega) (by omega)
          have HB : Hid (∀ w, Calls Try.prog 13 #[.int .i64 x.side, .int .i64 2] w fun e w' => e = .returned (.int .i64 (t : Int)) ∧ w = w') := HA
          have HB1 : Hid (∀ w, Calls Try.prog 13 #[.int .i64 x.come, .int .i64 50] w fun e w' => e = .returned (.int .i64 (m1 : Int)) ∧ w = w') := HA1
          have HB2 : Hid (∀ w, Calls Try.prog 13 #[.int .i64 x.take, .int .i64 50] w fun e w' => e = .returned (.int .i64 (m2 : Int)) ∧ w = w') := HA2
          clear HA HA1 HA2
          obtain rfl | rfl : t = 0 ∨ t = 1 := by omega
          · obtain ⟨y, hy⟩ : ∃ y : ByteArray, x.data ++ ⟨#[120]⟩ = y := ⟨_, rfl⟩
            obtain ⟨E0, hE0⟩ : ∃ E, c1.wrE y.size = E := ⟨_, rfl⟩
            obtain ⟨f1, hf1⟩ : ∃ e, c1.wrS y.data.toList = e := ⟨_, rfl⟩
            obtain ⟨E, hE⟩ : ∃ E, d1.wrE x.data.size = E := ⟨_, rfl⟩
            obtain ⟨e1, he1⟩ : ∃ e, d1.wrS x.data.data.toList = e := ⟨_, rfl⟩
            obtain ⟨k1, hk1⟩ : ∃ k, e1.arN m1 = k := ⟨_, rfl⟩
            obtain ⟨e2, he2⟩ : ∃ e, e1.arS m1 = e := ⟨_, rfl⟩
            obtain ⟨z, hz⟩ : ∃ z : ByteArray, (⟨(e2.q.take (e2.rdN m2)).toArray⟩ : ByteArray) = z := ⟨_, rfl⟩
            obtain ⟨e3, he3⟩ : ∃ e, e2.rdS m2 = e := ⟨_, rfl⟩
            have HE : Hid (d1.wrE x.data.size = E ∧ d1.wrS x.data.data.toList = e1 ∧ e1.arN m1 = k1 ∧ e1.arS m1 = e2 ∧ (⟨(e2.q.take (e2.rdN m2)).toArray⟩ : ByteArray) = z ∧ e2.rdS m2 = e3) := ⟨hE, he1, hk1, he2, hz, he3⟩
            have HF : Hid (c1.wrE y.size = E0 ∧ c1.wrS y.data.toList = f1) := ⟨hE0, hf1⟩
            clear hE he1 hk1 he2 hz he3 hE0 hf1
            go_wp2_with fail
            refine (HB.out _).mono ?_
            rintro e u7 ⟨rfl, rfl⟩
            go_wp2_with fail
            refine (sl_write (slotA pa pn _ w pb x) HP.out 1 0 y (by omega) rfl HF.out.1 (s' := [d0, d1, c0, f1]) (by rw [← HF.out.2]; rfl)).mono ?_
            rintro e u8 ⟨rfl, H8⟩
            have HS8 : Hid (Own pa pn [d0, d1, c0, f1] [d0, d1] w u8 pb x) := H8
            clear H8 HP
            go_wp2_with fail
            refine (sl_arrive (slotA pa pn _ w pb x) HS8.out 1 1 3 (by omega) rfl (by omega) rfl (s' := [d0, d1, c0, f1.arS 3]) rfl).mono ?_
            rintro e u9 ⟨rfl, H9⟩
            have HS9 : Hid (Own pa pn [d0, d1, c0, f1.arS 3] [d0, d1] w u9 pb x) := H9
            clear H9 HS8
            obtain ⟨z0, hz0⟩ : ∃ z : ByteArray, (⟨((f1.arS 3).q.take ((f1.arS 3).rdN 2)).toArray⟩ : ByteArray) = z := ⟨_, rfl⟩
            obtain ⟨f3, hf3⟩ : ∃ e, (f1.arS 3).rdS 2 = e := ⟨_, rfl⟩
            have HZ0 : Hid ((⟨((f1.arS 3).q.take ((f1.arS 3).rdN 2)).toArray⟩ : ByteArray) = z0 ∧ (f1.arS 3).rdS 2 = f3) := ⟨hz0, hf3⟩
            clear hz0 hf3
            go_wp2_with fail
            refine (sl_read (slotA pa pn _ w pb x) HS9.out 1 1 2 (by omega) rfl (by omega) (y := z0) HZ0.out.1 (s' := [d0, d1, c0, f3]) (by rw [← HZ0.out.2]; rfl)).mono ?_
            rintro e u10 ⟨rfl, H10⟩
            have HS10 : Hid (Own pa pn [d0, d1, c0, f3] [d0, d1] w u10 pb x) := H10
            obtain ⟨r1, -, -⟩ := HS10.out.cells
            clear H10 HS9
            have HW1 : Hid (∀ W m, W = u10.drewN m → Calls Try.prog 14 #[.pointer (some ⟨pa, 0, none⟩), .int .i64 0, .int .i64 0, .string x.data] W fun e w' => e = .returned (.int .i64 E) ∧ Own pa pn [d0, e1, c0, f3] [d0, d1] w w' pb x ∧ w'.cell? ⟨pb, 1, none⟩ = some (.string x.data)) := by
              rintro W m rfl
              refine (sl_write (slotA pa pn _ w pb x) (HS10.out.drewN m) 0 0 x.data (by omega) rfl HE.out.1 (s' := [d0, e1, c0, f3]) (by rw [← HE.out.2.1]; rfl)).mono ?_
              rintro e w' ⟨rfl, h⟩
              exact ⟨rfl, h, (Own.cells h).1⟩
            have HW2 : Hid (∀ W, Own pa pn [d0, e1, c0, f3] [d0, d1] w W pb x → Calls Try.prog 14 #[.pointer (some ⟨pn, 0, none⟩), .int .i64 0, .int .i64 0, .string x.data] W fun e w' => e = .returned (.int .i64 E) ∧ Own pa pn [d0, e1, c0, f3] [d0, e1] w w' pb x ∧ w'.cell? ⟨pb, 1, none⟩ = some (.string x.data)) := by
              intro W hW
              refine (sl_write (slotB pa pn _ w pb x) hW 0 0 x.data (by omega) rfl HE.out.1 (s' := [d0, e1]) (by rw [← HE.out.2.1]; rfl)).mono ?_
              rintro e w' ⟨rfl, h⟩
              exact ⟨rfl, h, (Own.cells h).1⟩
            go_wp2_with fail
            go_region_held3 (fun w' => w'.cell? ⟨pb, 1, none⟩ = some (.string x.data)) (go_keep)
              (first
                | (go_at_call_of 14 (Value.pointer (some ⟨pa, 0, none⟩)); refine (HW1.out _ 1 rfl).mono ?_; rintro e v1 ⟨rfl, hH, s1⟩)
                | (go_at_call_of 14 (Value.pointer (some ⟨pn, 0, none⟩)); refine (HW2.out _ hH).mono ?_; rintro e v2 ⟨rfl, hG, s2⟩))
            have HS11 : Hid (Own pa pn [d0, e1, c0, f3] [d0, e1] w v2 pb x) := hG
            obtain ⟨-, r4, -⟩ := HS11.out.cells
            clear hH hG s1 s2 r1 HS10 HW1 HW2
            go_wp2_with fail
            refine (HB1.out _).mono ?_
            rintro e u12 ⟨rfl, rfl⟩
            go_wp2_with fail
            refine (sl_arrive (slotA pa pn _ w pb x) HS11.out 0 1 m1 (by omega) rfl (by omega) (k := k1) HE.out.2.2.1 (s' := [d0, e2, c0, f3]) (by rw [← HE.out.2.2.2.1]; rfl)).mono ?_
            rintro e u12 ⟨rfl, H12⟩
            have HS12 : Hid (Own pa pn [d0, e2, c0, f3] [d0, e1] w u12 pb x) := H12
            obtain ⟨-, r5, -⟩ := HS12.out.cells
            clear H12 r4 HS11
            go_wp2_with fail
            refine (HB1.out _).mono ?_
            rintro e u13 ⟨rfl, rfl⟩
            go_wp2_with fail
            refine (sl_arrive (slotB pa pn _ w pb x) HS12.out 0 1 m1 (by omega) rfl (by omega) (k := k1) HE.out.2.2.1 (s' := [d0, e2]) (by rw [← HE.out.2.2.2.1]; rfl)).mono ?_
            rintro e u13 ⟨rfl, H13⟩
            have HS13 : Hid (Own pa pn [d0, e2, c0, f3] [d0, e2] w u13 pb x) := H13
            obtain ⟨-, -, r6⟩ := HS13.out.cells
            clear H13 r5 HS12
            go_wp2_with fail
            refine (HB2.out _).mono ?_
            rintro e u14 ⟨rfl, rfl⟩
            go_wp2_with fail
            refine (sl_read (slotA pa pn _ w pb x) HS13.out 0 1 m2 (by omega) rfl (by omega) (y := z) HE.out.2.2.2.2.1 (s' := [d0, e3, c0, f3]) (by rw [← HE.out.2.2.2.2.2]; rfl)).mono ?_
            rintro e u14 ⟨rfl, H14⟩
            have HS14 : Hid (Own pa pn [d0, e3, c0, f3] [d0, e2] w u14 pb x) := H14
            obtain ⟨-, -, r7⟩ := HS14.out.cells
            clear H14 r6 HS13
            go_wp2_with fail
            refine (HB2.out _).mono ?_
            rintro e u15 ⟨rfl, rfl⟩
            go_wp2_with fail
            refine (sl_read (slotB pa pn _ w pb x) HS14.out 0 1 m2 (by omega) rfl (by omega) (y := z) HE.out.2.2.2.2.1 (s' := [d0, e3]) (by rw [← HE.out.2.2.2.2.2]; rfl)).mono ?_
            rintro e u15 ⟨rfl, H15⟩
            have HS15 : Hid (Own pa pn [d0, e3, c0, f3] [d0, e3] w u15 pb x) := H15
            clear H15 r7 HS14
            go_wp2
            go_roundw
            case rel => exact ⟨j + 1, by omega, by omega, by go_num, d0, e3, c0, f3, Stand.drop HS15.out (fun p hp => List.mem_cons_of_mem _ hp)⟩
            case measure => simp [intOf]; omega
          · obtain ⟨y, hy⟩ : ∃ y : ByteArray, x.data ++ ⟨#[120]⟩ = y := ⟨_, rfl⟩
            obtain ⟨E0, hE0⟩ : ∃ E, c0.wrE y.size = E := ⟨_, rfl⟩
            obtain ⟨f1, hf1⟩ : ∃ e, c0.wrS y.data.toList = e := ⟨_, rfl⟩
            obtain ⟨E, hE⟩ : ∃ E, d0.wrE x.data.size = E := ⟨_, rfl⟩
            obtain ⟨e1, he1⟩ : ∃ e, d0.wrS x.data.data.toList = e := ⟨_, rfl⟩
            obtain ⟨k1, hk1⟩ : ∃ k, e1.arN m1 = k := ⟨_, rfl⟩
            obtain ⟨e2, he2⟩ : ∃ e, e1.arS m1 = e := ⟨_, rfl⟩
            obtain ⟨z, hz⟩ : ∃ z : ByteArray, (⟨(e2.q.take (e2.rdN m2)).toArray⟩ : ByteArray) = z := ⟨_, rfl⟩
            obtain ⟨e3, he3⟩ : ∃ e, e2.rdS m2 = e := ⟨_, rfl⟩
            have HE : Hid (d0.wrE x.data.size = E ∧ d0.wrS x.data.data.toList = e1 ∧ e1.arN m1 = k1 ∧ e1.arS m1 = e2 ∧ (⟨(e2.q.take (e2.rdN m2)).toArray⟩ : ByteArray) = z ∧ e2.rdS m2 = e3) := ⟨hE, he1, hk1, he2, hz, he3⟩
            have HF : Hid (c0.wrE y.size = E0 ∧ c0.wrS y.data.toList = f1) := ⟨hE0, hf1⟩
            clear hE he1 hk1 he2 hz he3 hE0 hf1
            go_wp2_with fail
            refine (HB.out _).mono ?_
            rintro e u7 ⟨rfl, rfl⟩
            go_wp2_with fail
            refine (sl_write (slotA pa pn _ w pb x) HP.out 1 1 y (by omega) rfl HF.out.1 (s' := [d0, d1, f1, c1]) (by rw [← HF.out.2]; rfl)).mono ?_
            rintro e u8 ⟨rfl, H8⟩
            have HS8 : Hid (Own pa pn [d0, d1, f1, c1] [d0, d1] w u8 pb x) := H8
            clear H8 HP
            go_wp2_with fail
            refine (sl_arrive (slotA pa pn _ w pb x) HS8.out 1 0 3 (by omega) rfl (by omega) rfl (s' := [d0, d1, f1.arS 3, c1]) rfl).mono ?_
            rintro e u9 ⟨rfl, H9⟩
            have HS9 : Hid (Own pa pn [d0, d1, f1.arS 3, c1] [d0, d1] w u9 pb x) := H9
            clear H9 HS8
            obtain ⟨z0, hz0⟩ : ∃ z : ByteArray, (⟨((f1.arS 3).q.take ((f1.arS 3).rdN 2)).toArray⟩ : ByteArray) = z := ⟨_, rfl⟩
            obtain ⟨f3, hf3⟩ : ∃ e, (f1.arS 3).rdS 2 = e := ⟨_, rfl⟩
            have HZ0 : Hid ((⟨((f1.arS 3).q.take ((f1.arS 3).rdN 2)).toArray⟩ : ByteArray) = z0 ∧ (f1.arS 3).rdS 2 = f3) := ⟨hz0, hf3⟩
            clear hz0 hf3
            go_wp2_with fail
            refine (sl_read (slotA pa pn _ w pb x) HS9.out 1 0 2 (by omega) rfl (by omega) (y := z0) HZ0.out.1 (s' := [d0, d1, f3, c1]) (by rw [← HZ0.out.2]; rfl)).mono ?_
            rintro e u10 ⟨rfl, H10⟩
            have HS10 : Hid (Own pa pn [d0, d1, f3, c1] [d0, d1] w u10 pb x) := H10
            obtain ⟨r1, -, -⟩ := HS10.out.cells
            clear H10 HS9
            have HW1 : Hid (∀ W m, W = u10.drewN m → Calls Try.prog 14 #[.pointer (some ⟨pa, 0, none⟩), .int .i64 0, .int .i64 1, .string x.data] W fun e w' => e = .returned (.int .i64 E) ∧ Own pa pn [e1, d1, f3, c1] [d0, d1] w w' pb x ∧ w'.cell? ⟨pb, 1, none⟩ = some (.string x.data)) := by
              rintro W m rfl
              refine (sl_write (slotA pa pn _ w pb x) (HS10.out.drewN m) 0 1 x.data (by omega) rfl HE.out.1 (s' := [e1, d1, f3, c1]) (by rw [← HE.out.2.1]; rfl)).mono ?_
              rintro e w' ⟨rfl, h⟩
              exact ⟨rfl, h, (Own.cells h).1⟩
            have HW2 : Hid (∀ W, Own pa pn [e1, d1, f3, c1] [d0, d1] w W pb x → Calls Try.prog 14 #[.pointer (some ⟨pn, 0, none⟩), .int .i64 0, .int .i64 1, .string x.data] W fun e w' => e = .returned (.int .i64 E) ∧ Own pa pn [e1, d1, f3, c1] [e1, d1] w w' pb x ∧ w'.cell? ⟨pb, 1, none⟩ = some (.string x.data)) := by
              intro W hW
              refine (sl_write (slotB pa pn _ w pb x) hW 0 1 x.data (by omega) rfl HE.out.1 (s' := [e1, d1]) (by rw [← HE.out.2.1]; rfl)).mono ?_
              rintro e w' ⟨rfl, h⟩
              exact ⟨rfl, h, (Own.cells h).1⟩
            go_wp2_with fail
            go_region_held3 (fun w' => w'.cell? ⟨pb, 1, none⟩ = some (.string x.data)) (go_keep)
              (first
                | (go_at_call_of 14 (Value.pointer (some ⟨pa, 0, none⟩)); refine (HW1.out _ 1 rfl).mono ?_; rintro e v1 ⟨rfl, hH, s1⟩)
                | (go_at_call_of 14 (Value.pointer (some ⟨pn, 0, none⟩)); refine (HW2.out _ hH).mono ?_; rintro e v2 ⟨rfl, hG, s2⟩))
            have HS11 : Hid (Own pa pn [e1, d1, f3, c1] [e1, d1] w v2 pb x) := hG
            obtain ⟨-, r4, -⟩ := HS11.out.cells
            clear hH hG s1 s2 r1 HS10 HW1 HW2
            go_wp2_with fail
            refine (HB1.out _).mono ?_
            rintro e u12 ⟨rfl, rfl⟩
            go_wp2_with fail
            refine (sl_arrive (slotA pa pn _ w pb x) HS11.out 0 0 m1 (by omega) rfl (by omega) (k := k1) HE.out.2.2.1 (s' := [e2, d1, f3, c1]) (by rw [← HE.out.2.2.2.1]; rfl)).mono ?_
            rintro e u12 ⟨rfl, H12⟩
            have HS12 : Hid (Own pa pn [e2, d1, f3, c1] [e1, d1] w u12 pb x) := H12
            obtain ⟨-, r5, -⟩ := HS12.out.cells
            clear H12 r4 HS11
            go_wp2_with fail
            refine (HB1.out _).mono ?_
            rintro e u13 ⟨rfl, rfl⟩
            go_wp2_with fail
            refine (sl_arrive (slotB pa pn _ w pb x) HS12.out 0 0 m1 (by omega) rfl (by omega) (k := k1) HE.out.2.2.1 (s' := [e2, d1]) (by rw [← HE.out.2.2.2.1]; rfl)).mono ?_
            rintro e u13 ⟨rfl, H13⟩
            have HS13 : Hid (Own pa pn [e2, d1, f3, c1] [e2, d1] w u13 pb x) := H13
            obtain ⟨-, -, r6⟩ := HS13.out.cells
            clear H13 r5 HS12
            go_wp2_with fail
            refine (HB2.out _).mono ?_
            rintro e u14 ⟨rfl, rfl⟩
            go_wp2_with fail
            refine (sl_read (slotA pa pn _ w pb x) HS13.out 0 0 m2 (by omega) rfl (by omega) (y := z) HE.out.2.2.2.2.1 (s' := [e3, d1, f3, c1]) (by rw [← HE.out.2.2.2.2.2]; rfl)).mono ?_
            rintro e u14 ⟨rfl, H14⟩
            have HS14 : Hid (Own pa pn [e3, d1, f3, c1] [e2, d1] w u14 pb x) := H14
            obtain ⟨-, -, r7⟩ := HS14.out.cells
            clear H14 r6 HS13
            go_wp2_with fail
            refine (HB2.out _).mono ?_
            rintro e u15 ⟨rfl, rfl⟩
            go_wp2_with fail
            refine (sl_read (slotB pa pn _ w pb x) HS14.out 0 0 m2 (by omega) rfl (by omega) (y := z) HE.out.2.2.2.2.1 (s' := [e3, d1]) (by rw [← HE.out.2.2.2.2.2]; rfl)).mono ?_
            rintro e u15 ⟨rfl, H15⟩
            have HS15 : Hid (Own pa pn [e3, d1, f3, c1] [e3, d1] w u15 pb x) := H15
            clear H15 r7 HS14
            go_wp2
            go_roundw
            case rel => exact ⟨j + 1, by omega, by omega, by go_num, e3, d1, f3, c1, Stand.drop HS15.out (fun p hp => List.mem_cons_of_mem _ hp)⟩
            case measure => simp [intOf]; omega
      · have h2I : ¬ (j : Int) < 60 := by omega
        have HB : Hid (Below w.heap.size w wr) := by obtain ⟨_, _, _, _, h⟩ := HI.out; exact h.base
        go_wp2
        go_ret
        exact ⟨rfl, HB.out⟩
    · have hlI : ¬ (j : Int) < (L.length : Int) := by omega
      have HB : Hid (Below w.heap.size w wr) := by obtain ⟨_, _, _, _, h⟩ := HI.out; exact h.base
      go_wp2
      go_ret
      exact ⟨rfl, HB.out⟩

end Apart
end Go.Proofs.Ythfmppghdlniiaa
