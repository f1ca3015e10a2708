import Derived.Shelf.Strings.Builder1
import Derived.Test.YtigegdelhpdlhaaGreatDoorProg
import Derived.Test.YtigegdelhpdlhaaGreatDoorJOpenJ
/- The library contract that the proofs of this seat lean on (a copy of a text), laid at its program. -/
namespace Go.Proofs
open Go.Shelf
def Tryz.laysBLen_ren : Go.Shelf.Ren := ⟨fun | 170 => 91 | n => n, fun | 70 => 143 | 3 => 3 | 0 => 0 | 72 => 145 | 37 => 54 | 5 => 5 | n => n, fun | n => n⟩
theorem Tryz.laysBLen : Go.Proofs.Lays.n170 Tryz.prog Tryz.laysBLen_ren := {
  mixed := by kernel_rfl
  f170 := Tryz.func91.trans (congrArg some (by kernel_rfl))
  t0 := Tryz.underlying0
  a0 := Tryz.isAgg0
  z0 := Tryz.sizeOf0
  v0 := Tryz.zeroValue0
  t3 := Tryz.underlying3
  a3 := Tryz.isAgg3
  z3 := Tryz.sizeOf3
  v3 := Tryz.zeroValue3
  t37 := Tryz.underlying54
  a37 := Tryz.isAgg54
  z37 := Tryz.sizeOf54
  v37 := Tryz.zeroValue54
  t70 := Tryz.underlying143
  a70 := Tryz.isAgg143
  z70 := Tryz.sizeOf143
  v70 := Tryz.zeroValue143
  t72 := Tryz.underlying145
  a72 := Tryz.isAgg145
  z72 := Tryz.sizeOf145
  v72 := Tryz.zeroValue145 }
def Tryz.laysBStr_ren : Go.Shelf.Ren := ⟨fun | 169 => 93 | n => n, fun | 70 => 143 | 9 => 9 | 0 => 0 | 72 => 145 | 37 => 54 | 127 => 167 | 3 => 3 | 5 => 5 | n => n, fun | n => n⟩
theorem Tryz.laysBStr : Go.Proofs.Lays.n169 Tryz.prog Tryz.laysBStr_ren := {
  mixed := by kernel_rfl
  f169 := Tryz.func93.trans (congrArg some (by kernel_rfl))
  t0 := Tryz.underlying0
  a0 := Tryz.isAgg0
  z0 := Tryz.sizeOf0
  v0 := Tryz.zeroValue0
  t3 := Tryz.underlying3
  a3 := Tryz.isAgg3
  z3 := Tryz.sizeOf3
  v3 := Tryz.zeroValue3
  t9 := Tryz.underlying9
  a9 := Tryz.isAgg9
  z9 := Tryz.sizeOf9
  v9 := Tryz.zeroValue9
  t37 := Tryz.underlying54
  a37 := Tryz.isAgg54
  z37 := Tryz.sizeOf54
  v37 := Tryz.zeroValue54
  t70 := Tryz.underlying143
  a70 := Tryz.isAgg143
  z70 := Tryz.sizeOf143
  v70 := Tryz.zeroValue143
  t72 := Tryz.underlying145
  a72 := Tryz.isAgg145
  z72 := Tryz.sizeOf145
  v72 := Tryz.zeroValue145
  t127 := Tryz.underlying167
  a127 := Tryz.isAgg167
  z127 := Tryz.sizeOf167
  v127 := Tryz.zeroValue167 }
end Go.Proofs

/- Layer 18: a strings.Builder: the library's contracts at this program (WriteString laid by hand). -/
namespace Go.Proofs.YtigegdelhpdlhaaGreatDoor
open Go.RowKit QP Go.Shelf Go.Proofs

def renBW : Go.Shelf.Ren := ⟨fun | 166 => 92 | 240 => 115 | 276 => 132 | n => n, fun | 0 => 0 | 3 => 3 | 4 => 4 | 9 => 9 | 20 => 20 | 37 => 54 | 5 => 5 | 70 => 143 | 72 => 145 | 75 => 147 | 80 => 150 | 164 => 190 | n => n, fun | n => n⟩
theorem laysBW : Go.Proofs.Lays.n166 Tryz.prog renBW := {
  mixed := by kernel_rfl
  f166 := Tryz.func92.trans (congrArg some (by kernel_rfl))
  f240 := Tryz.func115.trans (congrArg some (by kernel_rfl))
  f276 := Tryz.func132.trans (congrArg some (by kernel_rfl))
  t0 := Tryz.underlying0
  a0 := Tryz.isAgg0
  z0 := Tryz.sizeOf0
  v0 := Tryz.zeroValue0
  t3 := Tryz.underlying3
  a3 := Tryz.isAgg3
  z3 := Tryz.sizeOf3
  v3 := Tryz.zeroValue3
  t4 := Tryz.underlying4
  a4 := Tryz.isAgg4
  z4 := Tryz.sizeOf4
  v4 := Tryz.zeroValue4
  t9 := Tryz.underlying9
  a9 := Tryz.isAgg9
  z9 := Tryz.sizeOf9
  v9 := Tryz.zeroValue9
  t20 := Tryz.underlying20
  a20 := Tryz.isAgg20
  z20 := Tryz.sizeOf20
  v20 := Tryz.zeroValue20
  t37 := Tryz.underlying54
  a37 := Tryz.isAgg54
  z37 := Tryz.sizeOf54
  v37 := Tryz.zeroValue54
  t70 := Tryz.underlying143
  a70 := Tryz.isAgg143
  z70 := Tryz.sizeOf143
  v70 := Tryz.zeroValue143
  t72 := Tryz.underlying145
  a72 := Tryz.isAgg145
  z72 := Tryz.sizeOf145
  v72 := Tryz.zeroValue145
  t75 := Tryz.underlying147
  a75 := Tryz.isAgg147
  z75 := Tryz.sizeOf147
  v75 := Tryz.zeroValue147
  t164 := Tryz.underlying190
  a164 := Tryz.isAgg190
  z164 := Tryz.sizeOf190
  v164 := Tryz.zeroValue190 }
theorem extraBW : Builder.Extra Tryz.prog renBW := {
  sizeBuilder := by kernel_rfl
  liesBuilder := by kernel_rfl
  t5 := Tryz.underlying5
  a5 := Tryz.isAgg5
  z5 := Tryz.sizeOf5
  v5 := Tryz.zeroValue5
  infoByte := by kernel_rfl
  cellsByte := by kernel_rfl
  sizeByte := by kernel_rfl
  neB5 := by decide }
theorem extraBS : Builder.Extra Tryz.prog Tryz.laysBStr_ren := {
  sizeBuilder := by kernel_rfl
  liesBuilder := by kernel_rfl
  t5 := Tryz.underlying5
  a5 := Tryz.isAgg5
  z5 := Tryz.sizeOf5
  v5 := Tryz.zeroValue5
  infoByte := by kernel_rfl
  cellsByte := by kernel_rfl
  sizeByte := by kernel_rfl
  neB5 := by decide }
/-- a builder in block b that has written l -/
def BldI (B b : Nat) (l : List UInt8) (w : World) : Prop := Lib.IsBuilder 145 5 B b (Lib.byteCells l) w
theorem bld_len {B b : Nat} {l : List UInt8} {w : World} (h : BldI B b l w) : Calls Tryz.prog 91 #[.pointer (some ⟨b, 0, none⟩)] w fun e w' => e = .returned (.int .i64 (l.length : Int)) ∧ w = w' :=
  (Any.Builder_Len Tryz.laysBLen B b (Lib.byteCells l) w h).mono fun e w' ⟨h1, h2⟩ => ⟨by rw [h1]; simp [Lib.byteCells], h2.symm⟩
theorem bld_write {B b : Nat} {l : List UInt8} {w : World} (s : ByteArray) (h : BldI B b l w) (hl : l.length + s.size ≤ 1000000) (hB : B ≤ w.heap.size) :
    Calls Tryz.prog 92 #[.pointer (some ⟨b, 0, none⟩), .string s] w fun e w' => e = .returned (.tuple #[.int .i64 (s.size : Int), .nilIface]) ∧ BldI B b (l ++ s.data.toList) w' ∧ Below B w w' :=
  (Any.Builder_WriteString laysBW extraBW B b (Lib.byteCells l) s w h (by simp [Lib.byteCells]; omega) hB).mono fun e w' ⟨h1, h2, h3⟩ => ⟨h1, Or.inr (by
    have e1 : Lib.byteCells (l ++ s.data.toList) = Lib.byteCells l ++ Lib.strCells s := by simp [Lib.byteCells, Lib.strCells]
    rw [e1]
    exact h2), h3⟩
theorem bld_string {B b : Nat} {l : List UInt8} {w : World} (h : BldI B b l w) (hB : B ≤ w.heap.size) : Calls Tryz.prog 93 #[.pointer (some ⟨b, 0, none⟩)] w fun e w' => e = .returned (.string ⟨l.toArray⟩) ∧ Below B w w' :=
  Any.Builder_String_any Tryz.laysBStr extraBS B b l w h hB
theorem bld_new {B b : Nat} {w : World} (hB : B ≤ b) (h : w.heap[b]? = some (.cells #[.pointer none, .slice none 0 0] 145 (0, 0))) : BldI B b [] w :=
  Or.inl ⟨hB, _, h, ⟨rfl, Or.inl ⟨rfl, rfl⟩⟩, fun e => by cases e⟩
end Go.Proofs.YtigegdelhpdlhaaGreatDoor

/- Layer 18: what is written at once (first): all that waits (at most a thousand lines). -/
namespace Go.Proofs.YtigegdelhpdlhaaGreatDoor
open Go.RowKit QP

theorem BldI.below {B b : Nat} {l : List UInt8} {w w' : World} (h : BldI B b l w) (hb : Below w.heap.size w w') : BldI B b l w' := by
  have key : ∀ p, Lib.BuilderAt 145 5 B b p (Lib.byteCells l) w → Lib.BuilderAt 145 5 B b p (Lib.byteCells l) w' := by
    rintro p ⟨h1, v, h2, h3, h4⟩
    exact ⟨h1, v, (hb.block b (lt_of h2)).trans h2, ownsRow_block h3 fun g hg => hb.block g (World.ownsRow.lt h3 g hg).2, h4⟩
  exact h.imp (key _) (key _)
theorem lineF_len (t k : ByteArray) : ∀ W : List (Nat × Nat), (flatF (W.map (bodyN t k))).length = W.length * (t.size + k.size + 59)
  | [] => by simp [flatF]
  | p :: W => by
    rw [List.map_cons, flatF_cons, List.length_append, frameB_len, bodyN_size, lineF_len t k W, List.length_cons, Nat.succ_mul]
    omega
theorem lineF_next (t k : ByteArray) {W : List (Nat × Nat)} {j : Nat} (h : j < W.length) : flatF ((W.take (j + 1)).map (bodyN t k)) = flatF ((W.take j).map (bodyN t k)) ++ (frameB (bodyN t k W[j])).data.toList := by
  rw [List.take_succ_eq_append_getElem h, List.map_append, flatF_append, List.map_cons, List.map_nil, flatF_cons]
  simp [flatF]

set_option maxRecDepth 100000 in
set_option maxHeartbeats 2000000 in
theorem jfirst_any (t k : ByteArray) (b o : Nat) (v : Value) (W : List (Nat × Nat)) (w : World) (hc : w.cell? ⟨b, o, none⟩ = some v) (hown : w.ownsRow 0 113 2 v W.length (flat (enLn t k) W)) (hn : W.length ≤ 1000) (ht : t.size ≤ 100) (hk : k.size ≤ 100) :
    Calls Tryz.prog 66 #[.pointer (some ⟨b, o, none⟩)] w fun e w' => e = .returned (.tuple #[.string ⟨(flatF (W.map (bodyN t k))).toArray⟩, .int .i64 (W.length : Int)]) ∧ Below w.heap.size w w' := by
  obtain ⟨A, m, rfl⟩ := row_shapeJ hown
  obtain ⟨N, hN⟩ : ∃ N, W.length = N := ⟨_, rfl⟩
  obtain ⟨q, hq⟩ : ∃ q, w.heap.size = q := ⟨_, rfl⟩
  have HO : Hid (w.ownsRow 0 113 2 (.slice A W.length m) W.length (flat (enLn t k) W)) := hown
  have HN : Hid (W.length = N) := hN
  have HS : Hid (t.size ≤ 100 ∧ k.size ≤ 100) := ⟨ht, hk⟩
  obtain ⟨wB, hwB⟩ : ∃ u, w.alloc (.cells #[.pointer none, .slice none 0 0] 145) = u := ⟨_, rfl⟩
  have hbB : Below w.heap.size w wB := by rw [← hwB]; exact (Below.refl _ _).alloc (Nat.le_refl _) _
  have HI0 : Hid (BldI q q [] wB) := bld_new (Nat.le_refl _) (by rw [← hwB, ← hq]; exact heap_new w _)
  have HBB : Hid (Below w.heap.size w wB) := hbB
  have HQ : Hid (w.heap.size = q) := hq
  have HW : Hid (w.alloc (.cells #[.pointer none, .slice none 0 0] 145) = wB) := hwB
  have hcB : ∀ O, (w.alloc O).cell? ⟨b, o, none⟩ = some (.slice A N m) := fun O => by
    rw [← hN]
    exact (((Below.refl w.heap.size w).alloc (Nat.le_refl _) O).cell (p := ⟨b, o, none⟩) (block_lt_of_cell hc)).trans hc
  rw [hN] at hn
  clear hc hown ht hk hwB hbB hN hq
  go_enter Tryz.func66, Tryz.ntmps66
  go_wp2_with fail
  rw [HW.out, HQ.out]
  clear hcB
  go_loopw [5, 13] (fun v i wr => ∃ j : Nat, j ≤ N ∧ i = .int .i64 j ∧ v = .int .i64 j ∧ Hid (BldI q q (flatF ((W.take j).map (bodyN t k))) wr) ∧ Hid (Below q w wr ∧ q < wr.heap.size)) (fun _ i _ => N - (intOf i).toNat)
  case atStart =>
    refine ⟨0, Nat.zero_le _, rfl, rfl, HI0.out, ?_, ?_⟩
    · have := HBB.out
      rw [HQ.out] at this
      exact this
    · rw [← HW.out, World.size_alloc, HQ.out]
      exact Nat.lt_succ_self _
  case round =>
    obtain ⟨j, hj, rfl, rfl, HB, HBw⟩ := hrel
    by_cases hlt : j < N
    · have hlI : (j : Int) < (N : Int) := by omega
      have hje : j < W.length := by rw [HN.out]; exact hlt
      obtain ⟨g, rfl, hc1, hc2⟩ := row_someJ HO.out (by omega)
      have hrow := row_kept HO.out (HQ.out ▸ HBw.out.1)
      obtain ⟨p, hp⟩ : ∃ p, W[j] = p := ⟨_, rfl⟩
      have g0 := flat_get (enLn_len t k) W j hje 0 (by omega)
      have g1 := flat_get (enLn_len t k) W j hje 1 (by omega)
      rw [hp] at g0 g1
      have q0 := World.ownsRow.cells hrow (g := g) rfl _ _ g0
      have q1 := World.ownsRow.cells hrow (g := g) rfl _ _ g1
      rw [Addr.add_lit, Nat.zero_add, Nat.mul_comm] at q0 q1
      obtain ⟨Ep, hEp⟩ : ∃ e, ((p.1 / 8388608 : Nat) : Int) = e := ⟨_, rfl⟩
      obtain ⟨Fr, hFr⟩ : ∃ f, frameB (bodyN t k p) = f := ⟨_, rfl⟩
      have hFs : Fr.size ≤ 267 := by
        have h1 := HS.out
        rw [← hFr, frameB_size, bodyN_size]
        omega
      have q2 : wr.cell? ⟨g, j * 2, none⟩ = some (.int .i64 Ep) := by rw [← hEp]; exact q0
      have q3 : wr.cell? ⟨g, j * 2 + 1, none⟩ = some (.string Fr) := by rw [← hFr]; exact q1
      have hNx := lineF_next t k hje
      rw [hp, hFr] at hNx
      have hLn := lineF_len t k (W.take j)
      rw [List.length_take, HN.out, Nat.min_eq_left hj] at hLn
      obtain ⟨Lb, hLb⟩ : ∃ l, flatF ((W.take j).map (bodyN t k)) = l := ⟨_, rfl⟩
      rw [hLb] at HB hNx hLn
      have HNx : Hid (flatF ((W.take (j + 1)).map (bodyN t k)) = Lb ++ Fr.data.toList) := hNx
      have hLs : Lb.length ≤ 259000 := by
        have h1 := HS.out
        rw [hLn]
        calc j * (t.size + k.size + 59) ≤ 1000 * 259 := Nat.mul_le_mul (by omega) (by omega)
          _ = 259000 := rfl
      clear q0 q1 g0 g1 hrow hNx hLn hLb hFr hEp hp hc1 hc2
      obtain ⟨X, hX⟩ : ∃ X, wr.heap.size = X := ⟨_, rfl⟩
      obtain ⟨wA, hwA⟩ : ∃ u, wr.alloc (.cells #[.int .i64 Ep, .string Fr] 113) = u := ⟨_, rfl⟩
      have hbA : Below wr.heap.size wr wA := by rw [← hwA]; exact (Below.refl _ _).alloc (Nat.le_refl _) _
      have hhA : wA.heap[X]? = some (.cells #[.int .i64 Ep, .string Fr] 113 (0, 0)) := by rw [← hwA, ← hX]; exact heap_new wr _
      have cx : wA.cell? ⟨X, 1, none⟩ = some (.string Fr) := by rw [cell_of hhA]; rfl
      have HBA : Hid (BldI q q Lb wA.drew) := (HB.out.below hbA).below (below_drewN _ 1)
      have hqA : q ≤ wA.drew.heap.size := Nat.le_trans (Nat.le_of_lt HBw.out.2) hbA.size
      have HWr : Hid (Calls Tryz.prog 92 #[.pointer (some ⟨q, 0, none⟩), .string Fr] wA.drew fun e w' => e = .returned (.tuple #[.int .i64 (Fr.size : Int), .nilIface]) ∧ BldI q q (Lb ++ Fr.data.toList) w' ∧ Below q wA.drew w') := bld_write Fr HBA.out (by omega) hqA
      have HLe : Hid (Calls Tryz.prog 91 #[.pointer (some ⟨q, 0, none⟩)] wA.drew fun e w' => e = .returned (.int .i64 (Lb.length : Int)) ∧ wA.drew = w') := bld_len HBA.out
      have HBw2 : Hid (Below q w wA.drew ∧ q < wA.drew.heap.size) := ⟨HBw.out.1.trans ((hbA.mono (Nat.le_of_lt HBw.out.2)).trans ((below_drewN _ 1).mono hqA)), Nat.lt_of_lt_of_le HBw.out.2 hbA.size⟩
      have HWA : Hid (wr.alloc (.cells #[.int .i64 Ep, .string Fr] 113) = wA ∧ wr.heap.size = X) := ⟨hwA, hX⟩
      obtain ⟨la, hla⟩ : ∃ a, Lb.length = a := ⟨_, rfl⟩
      obtain ⟨fa, hfa⟩ : ∃ a, Fr.size = a := ⟨_, rfl⟩
      rw [hla] at HLe hLs
      rw [hfa] at HWr hFs
      have c1 : ¬ (262144 : Int) < (la : Int) + (fa : Int) := by omega
      have c2 : decide ((262144 : Int) < (la : Int) + (fa : Int)) = false := decide_eq_false c1
      have c3 : decide (262144 < la + fa) = false := decide_eq_false (by omega)
      have c4 : IntKind.i64.wrap ((la : Int) + (fa : Int)) = (la : Int) + (fa : Int) := by rw [IntKind.wrap_i64]; omega
      have c5 : decide ((262144 : Int) < IntKind.i64.wrap ((la : Int) + (fa : Int))) = false := by rw [c4]; exact c2
      clear hwA hbA hhA hqA HB HBA HBw hla hX
      by_cases hj0 : j = 0
      · subst hj0
        rw [Nat.zero_mul] at q2 q3
        rw [Nat.zero_add] at q3
        go_wp2_with fail
        rw [HWA.out.1, HWA.out.2]
        go_region
        go_wp2_with fail
        refine HWr.out.mono ?_
        rintro e w5 ⟨rfl, HB5, hb5⟩
        have HB5' : Hid (BldI q q (flatF ((W.take (0 + 1)).map (bodyN t k))) w5) := by rw [HNx.out]; exact HB5
        have HBw5 : Hid (Below q w w5 ∧ q < w5.heap.size) := ⟨HBw2.out.1.trans hb5, Nat.lt_of_lt_of_le HBw2.out.2 hb5.size⟩
        clear HB5 hb5
        go_wp2_with fail
        exact ⟨⟨0 + 1, by omega, by go_num, by go_num, HB5', HBw5⟩, by simp [intOf]; omega⟩
      · have d1 : (0 : Int) < (j : Int) := by omega
        have d2 : decide ((0 : Int) < (j : Int)) = true := decide_eq_true d1
        have d3 : decide (0 < j) = true := decide_eq_true (by omega)
        go_wp2_with fail
        rw [HWA.out.1, HWA.out.2]
        go_region_held3 (fun u => u.cell? ⟨X, 1, none⟩ = some (.string Fr)) (go_keep) (first | (go_at_call 91; (with_reducible refine HLe.out.mono ?_); rintro e w4 ⟨rfl, rfl⟩))
        go_wp2_with fail
        refine HWr.out.mono ?_
        rintro e w5 ⟨rfl, HB5, hb5⟩
        have HB5' : Hid (BldI q q (flatF ((W.take (j + 1)).map (bodyN t k))) w5) := by rw [HNx.out]; exact HB5
        have HBw5 : Hid (Below q w w5 ∧ q < w5.heap.size) := ⟨HBw2.out.1.trans hb5, Nat.lt_of_lt_of_le HBw2.out.2 hb5.size⟩
        clear HB5 hb5
        go_wp2_with fail
        exact ⟨⟨j + 1, by omega, by go_num, by go_num, HB5', HBw5⟩, by simp [intOf]; omega⟩
    · obtain rfl : j = N := by omega
      have HN' := HN.out
      have hlI : ¬ (j : Int) < (j : Int) := by omega
      have HB' : Hid (BldI q q (flatF (W.map (bodyN t k))) wr) := by
        have h1 := HB.out
        rw [← HN.out, List.take_length] at h1
        exact h1
      have HSt : Hid (Calls Tryz.prog 93 #[.pointer (some ⟨q, 0, none⟩)] wr fun e w' => e = .returned (.string ⟨(flatF (W.map (bodyN t k))).toArray⟩) ∧ Below q wr w') := bld_string HB'.out (Nat.le_of_lt HBw.out.2)
      clear HB
      go_wp2_with fail
      refine HSt.out.mono ?_
      rintro e w5 ⟨rfl, hb5⟩
      go_wp2_with fail
      go_returns
      rw [HN']
      exact ⟨rfl, HQ.out ▸ HBw.out.1.trans hb5⟩
end Go.Proofs.YtigegdelhpdlhaaGreatDoor
