/- hopperbook: SameInts and SameTable of two that are the same. -/
import Derived.Test.YtnboanlhdllhnaaGreatZCat
import Derived.Laws.StructEq
import Derived.BigQuiet
namespace Go.Proofs.YtnboanlhdllhnaaGreat
open Go.RowKit

theorem eqCol (s : ByteArray) (k : Int) (W : World) : (Op.equalIn 10000 70 (.agg #[.string s, .int .i64 k]) (.agg #[.string s, .int .i64 k])).run Tryz.prog W = .ok true W := by
  have h0 : ∀ W : World, (_root_.Go.part 9 #[.string s, .int .i64 k] 0).run Tryz.prog W = .ok (.string s) W := fun W => by kernel_rfl
  have h1 : ∀ W : World, (_root_.Go.part 3 #[.string s, .int .i64 k] 1).run Tryz.prog W = .ok (.int .i64 k) W := fun W => by kernel_rfl
  have hi : ∀ W : World, (Op.equalIn 9999 3 (.int .i64 k) (.int .i64 k)).run Tryz.prog W = .ok (k == k) W := fun W => run_equalIn_int (P := Tryz.prog) W 9998 3 .i64 .i64 k k Tryz.underlying3
  have hs : ∀ W : World, (Op.equalIn 9999 9 (.string s) (.string s)).run Tryz.prog W = .ok (s.toList == s.toList) W := fun W => run_equalIn_string (P := Tryz.prog) W 9998 9 s s Tryz.underlying9
  have hf : Tryz.prog.underlying 70 = some (.struct (Tryz.prog.fieldsOf 70)) := by kernel_rfl
  show (Op.equalIn (9999 + 1) 70 _ _).run Tryz.prog W = _
  rw [run_equalIn_agg _ _ _ _ _ hf (by kernel_rfl)]
  have hu := Tryz.underlying70
  rw [hf] at hu
  simp only [Option.some.injEq, TypeDesc.struct.injEq] at hu
  rw [hu]
  simp [Op.eqFields, h0, h1, hi, hs]
theorem guardCol : Tryz.prog.eqGuardType Tryz.prog.depth 70 = false := by kernel_rfl

set_option maxRecDepth 100000 in
set_option maxHeartbeats 1000000 in
theorem sameInts_same (v v' : Value) (X : List Int) (w w0 : World) (hb : Below w0.heap.size w0 w) (h1 : SliceAt w0 v 1 enI X) (h2 : SliceAt w0 v' 1 enI X) :
    Calls Tryz.prog 29 #[v, v'] w fun e w' => e = .returned (.bool true) ∧ Below w.heap.size w w' := by
  obtain ⟨a1, c1, rfl, l1, k1, g1⟩ := h1.opened
  obtain ⟨a2, c2, rfl, -, -, g2⟩ := h2.opened
  have HG : Hid (∀ u, Below w.heap.size w u → ∀ i x, X[i]? = some x → ∃ b off b' off', a1 = some ⟨b, off, none⟩ ∧ a2 = some ⟨b', off', none⟩ ∧ u.cell? ⟨b, off + i, none⟩ = some (.int .i64 x) ∧ u.cell? ⟨b', off' + i, none⟩ = some (.int .i64 x)) := fun u hu i x hx => by
    obtain ⟨hi, rfl⟩ := List.getElem?_eq_some_iff.1 hx
    have hbu := hb.trans (hu.mono hb.size)
    obtain ⟨b, off, e, _, hc⟩ := g1 u hbu i hi
    obtain ⟨b', off', e', _, hc'⟩ := g2 u hbu i hi
    have q1 := hc 0 _ rfl
    have q2 := hc' 0 _ rfl
    rw [Nat.mul_one] at q1 q2
    exact ⟨b, off, b', off', e, e', q1, q2⟩
  unfold maxLen at k1
  obtain ⟨n, hn⟩ : ∃ n, X.length = n := ⟨_, rfl⟩
  have HN : Hid (X.length = n) := hn
  rw [hn] at l1 ⊢
  clear g1 g2 hn h1 h2 hb
  go_enter Tryz.func29, Tryz.ntmps29
  go_wp2_with fail
  go_loopw [5] (fun i wr => ∃ (k : Nat), k ≤ n ∧ i = .int .i64 k ∧ Hid (Below w.heap.size w wr)) (fun i _ => n - (intOf i).toNat)
  case atStart => exact ⟨0, Nat.zero_le _, rfl, Below.refl _ _⟩
  case round =>
    obtain ⟨k, hk, rfl, HW⟩ := hrel
    by_cases hlt : k < n
    · have hlI : (k : Int) < (n : Int) := by omega
      obtain ⟨x, hx⟩ : ∃ x, X[k]? = some x := ⟨_, List.getElem?_eq_getElem (by rw [HN.out]; exact hlt)⟩
      obtain ⟨b, off, b', off', rfl, rfl, q1, q2⟩ := HG.out wr HW.out k x hx
      clear hx
      go_wp2_with fail
      go_quiet (fail)
      go_wp2_with fail
      go_roundw
      case rel => exact ⟨k + 1, by omega, by go_num, HW.out.trans ((below_drewN wr _).mono HW.out.size)⟩
      case measure => simp [intOf]; omega
    · have hlI : ¬ (k : Int) < (n : Int) := by omega
      go_wp2_with fail
      go_ret
      exact ⟨rfl, HW.out⟩

set_option maxRecDepth 100000 in
set_option maxHeartbeats 4000000 in
theorem sameTable_same (cv iv cv' iv' : Value) (T : Tab) (w w0 : World) (hb : Below w0.heap.size w0 w) (h1 : TabV w0 cv iv T) (h2 : TabV w0 cv' iv' T) :
    Calls Tryz.prog 11 #[tabVal cv iv T, tabVal cv' iv' T] w fun e w' => e = .returned (.bool true) ∧ Below w.heap.size w w' := by
  obtain ⟨g1, X, g2, g3, g4⟩ := h1
  obtain ⟨g1', X', g2', g3', g4'⟩ := h2
  obtain ⟨ca, cc, rfl, s1, s2, s3⟩ := g1.opened
  obtain ⟨ca', cc', rfl, s1', s2', s3'⟩ := g1'.opened
  obtain ⟨ia, ic, rfl, t1, t2, t3⟩ := g2.opened
  obtain ⟨ia', ic', rfl, t1', t2', t3'⟩ := g2'.opened
  unfold maxLen at s2 t2 s2' t2'
  have hXX : X'.length = X.length := by
    have := congrArg List.length (g3'.trans g3.symm)
    rw [List.length_map, List.length_map] at this
    exact this
  have HC : Hid (∀ u, Below w.heap.size w u → ∀ i y, T.co[i]? = some y → ∃ b off b' off', ca = some ⟨b, off, none⟩ ∧ ca' = some ⟨b', off', none⟩ ∧ u.cell? ⟨b, off + i * 2, none⟩ = some (.string y.1) ∧ u.cell? ⟨b, off + i * 2 + 1, none⟩ = some (.int .i64 y.2) ∧ u.cell? ⟨b', off' + i * 2, none⟩ = some (.string y.1) ∧ u.cell? ⟨b', off' + i * 2 + 1, none⟩ = some (.int .i64 y.2)) := fun u hu i y hy => by
    obtain ⟨hi, rfl⟩ := List.getElem?_eq_some_iff.1 hy
    have hbu := hb.trans (hu.mono hb.size)
    obtain ⟨b, off, e, _, hc⟩ := s3 u hbu i hi
    obtain ⟨b', off', e', _, hc'⟩ := s3' u hbu i hi
    exact ⟨b, off, b', off', e, e', hc 0 _ rfl, hc 1 _ rfl, hc' 0 _ rfl, hc' 1 _ rfl⟩
  have HX : Hid (∀ u, Below w.heap.size w u → ∀ i, i < X.length → ∃ (nm : ByteArray) (cs : List Int) (un : Bool) (v v' : Value) (b off b' off' : Nat), ia = some ⟨b, off, none⟩ ∧ ia' = some ⟨b', off', none⟩ ∧ u.cell? ⟨b, off + i * 3, none⟩ = some (.string nm) ∧ u.cell? ⟨b, off + i * 3 + 1, none⟩ = some v ∧ u.cell? ⟨b, off + i * 3 + 2, none⟩ = some (.bool un) ∧ u.cell? ⟨b', off' + i * 3, none⟩ = some (.string nm) ∧ u.cell? ⟨b', off' + i * 3 + 1, none⟩ = some v' ∧ u.cell? ⟨b', off' + i * 3 + 2, none⟩ = some (.bool un) ∧ SliceAt w0 v 1 enI cs ∧ SliceAt w0 v' 1 enI cs) := fun u hu i hi => by
    have hi' : i < X'.length := by omega
    have hbu := hb.trans (hu.mono hb.size)
    obtain ⟨b, off, e, _, hc⟩ := t3 u hbu i hi
    obtain ⟨b', off', e', _, hc'⟩ := t3' u hbu i hi'
    have hix : X'[i].ix = X[i].ix := by
      have h1 : (X.map Iv.ix)[i]? = some X[i].ix := by rw [List.getElem?_map, List.getElem?_eq_getElem hi]; rfl
      have h2 : (X'.map Iv.ix)[i]? = some X'[i].ix := by rw [List.getElem?_map, List.getElem?_eq_getElem hi']; rfl
      rw [g3'] at h2
      rw [g3, h2] at h1
      exact Option.some.inj h1
    have k1 := g4' X'[i] (List.getElem_mem hi')
    rw [hix] at k1
    refine ⟨X[i].ix.nm, X[i].ix.cs, X[i].ix.un, X[i].v, X'[i].v, b, off, b', off', e, e', hc 0 _ rfl, hc 1 _ rfl, hc 2 _ rfl, ?_, hc' 1 _ rfl, ?_, g4 X[i] (List.getElem_mem hi), k1⟩
    · rw [← hix]; exact hc' 0 _ rfl
    · rw [← hix]; exact hc' 2 _ rfl
  obtain ⟨N, hN⟩ : ∃ N, T.co.length = N := ⟨_, rfl⟩
  obtain ⟨M, hM⟩ : ∃ M, X.length = M := ⟨_, rfl⟩
  obtain ⟨key, hkey⟩ : ∃ key, T.key = key := ⟨_, rfl⟩
  obtain ⟨nm, hnm⟩ : ∃ nm, T.nm = nm := ⟨_, rfl⟩
  have HN : Hid (T.co.length = N) := hN
  rw [hM] at HX t1 hXX
  rw [hN] at s1 s1'
  unfold tabVal
  rw [hN, hM, hXX, hkey, hnm]
  have HI : Hid (∀ v v' cs u, SliceAt w0 v 1 enI cs → SliceAt w0 v' 1 enI cs → Below w.heap.size w u → Calls Tryz.prog 29 #[v, v'] u fun e w' => e = .returned (.bool true) ∧ Hid (Below u.heap.size u w')) := fun v v' cs u k1 k2 hu => sameInts_same v v' cs u w0 (hb.trans (hu.mono hb.size)) k1 k2
  have hgd := guardCol
  have HEq : Hid (∀ s k W, (Op.equalIn 10000 70 (.agg #[.string s, .int .i64 k]) (.agg #[.string s, .int .i64 k])).run Tryz.prog W = .ok true W) := eqCol
  rw [hXX] at t1'
  clear g1 g2 g3 g4 g1' g2' g3' g4' s3 s3' t3 t3' hN hM hkey hnm hXX
  obtain ⟨xa, hxa⟩ : ∃ xa, w.heap.size = xa := ⟨_, rfl⟩
  obtain ⟨w1, hw1⟩ : ∃ w1, (w.alloc (tabBox nm ca N cc key ia M ic)).alloc (tabBox nm ca' N cc' key ia' M ic') = w1 := ⟨_, rfl⟩
  have HB1 : Hid (Below w.heap.size w w1) := by show Below _ _ _; rw [← hw1]; exact ((Below.refl _ w).alloc (Nat.le_refl _) _).alloc (by simp) _
  have HA : Hid (∀ u, Below w1.heap.size w1 u → u.cell? ⟨xa, 0, none⟩ = some (.string nm) ∧ u.cell? ⟨xa, 1, none⟩ = some (.slice ca N cc) ∧ u.cell? ⟨xa, 2, none⟩ = some (.int .i64 key) ∧ u.cell? ⟨xa, 3, none⟩ = some (.slice ia M ic) ∧ u.cell? ⟨xa + 1, 0, none⟩ = some (.string nm) ∧ u.cell? ⟨xa + 1, 1, none⟩ = some (.slice ca' N cc') ∧ u.cell? ⟨xa + 1, 2, none⟩ = some (.int .i64 key) ∧ u.cell? ⟨xa + 1, 3, none⟩ = some (.slice ia' M ic') ∧ xa + 1 < u.heap.size) := fun u hu => by
    have e1 : w1.heap[xa]? = some (tabBox nm ca N cc key ia M ic) := by
      rw [← hw1, ← hxa]
      exact (Below.heap_alloc _ _ _ (by simp)).trans (heap_new w _)
    have e2 : w1.heap[xa + 1]? = some (tabBox nm ca' N cc' key ia' M ic') := by
      have := heap_new (w.alloc (tabBox nm ca N cc key ia M ic)) (tabBox nm ca' N cc' key ia' M ic')
      have hz : (w.alloc (tabBox nm ca N cc key ia M ic)).heap.size = w.heap.size + 1 := by simp
      rw [hz] at this
      rw [← hw1, ← hxa]
      exact this
    have k1 := (hu.block _ (lt_of e1)).trans e1
    have k2 := (hu.block _ (lt_of e2)).trans e2
    exact ⟨by rw [cell_of k1]; rfl, by rw [cell_of k1]; rfl, by rw [cell_of k1]; rfl, by rw [cell_of k1]; rfl, by rw [cell_of k2]; rfl, by rw [cell_of k2]; rfl, by rw [cell_of k2]; rfl, by rw [cell_of k2]; rfl, lt_of k2⟩
  obtain ⟨p0, p1, p2, p3, r0, r1, r2, r3, pl⟩ := HA.out w1 (Below.refl _ _)
  have HBw : Hid (∀ u, Below w1.heap.size w1 u → Below w.heap.size w u) := fun u hu => HB1.out.trans (hu.mono HB1.out.size)
  go_enter Tryz.func11, Tryz.ntmps11
  go_wp2_with fail
  clear hw1 p0 p1 p2 p3 r0 r1 r2 r3
  go_loopw [5] (fun i wr => ∃ (k : Nat), k ≤ N ∧ i = .int .i64 k ∧ Hid (Below w1.heap.size w1 wr)) (fun i _ => N - (intOf i).toNat)
  case atStart => exact ⟨0, Nat.zero_le _, rfl, Below.refl _ _⟩
  case round =>
    obtain ⟨k, hk, rfl, HW⟩ := hrel
    obtain ⟨p0, p1, p2, p3, r0, r1, r2, r3, pl2⟩ := HA.out wr HW.out
    by_cases hlt : k < N
    · have hlI : (k : Int) < (N : Int) := by omega
      obtain ⟨⟨y, kd⟩, hy⟩ : ∃ y, T.co[k]? = some y := ⟨_, List.getElem?_eq_getElem (by rw [HN.out]; exact hlt)⟩
      obtain ⟨b, off, b', off', rfl, rfl, q1, q2, q3, q4⟩ := HC.out wr (HBw.out _ HW.out) k _ hy
      dsimp only at q1 q2 q3 q4
      have heq := HEq.out y kd
      clear hy
      go_wp2_with fail
      go_quiet (fail)
      go_wp2_with fail
      go_roundw
      case rel => exact ⟨k + 1, by omega, by go_num, HW.out.trans ((below_drewN wr _).mono HW.out.size)⟩
      case measure => simp [intOf]; omega
    · have hlI : ¬ (k : Int) < (N : Int) := by omega
      clear HC HEq hgd
      go_wp2_with fail
      clear p0 p1 p2 p3 r0 r1 r2 r3 pl2
      go_loopw [6] (fun i wr => ∃ (k : Nat), k ≤ M ∧ i = .int .i64 k ∧ Hid (Below w1.heap.size w1 wr)) (fun i _ => M - (intOf i).toNat)
      case atStart => exact ⟨0, Nat.zero_le _, rfl, HW⟩
      case round =>
        clear HW
        obtain ⟨k2, hk2, rfl, HW⟩ := hrel
        obtain ⟨p0, p1, p2, p3, r0, r1, r2, r3, pl2⟩ := HA.out wr HW.out
        by_cases hlt2 : k2 < M
        · have hlI2 : (k2 : Int) < (M : Int) := by omega
          obtain ⟨xn, cs, un, v, v', b, off, b', off', rfl, rfl, q1, q2, q3, q4, q5, q6, sl1, sl2⟩ := HX.out wr (HBw.out _ HW.out) k2 hlt2
          have HI2 : Hid (∀ u, Below w.heap.size w u → Calls Tryz.prog 29 #[v, v'] u fun e w' => e = .returned (.bool true) ∧ Hid (Below u.heap.size u w')) := fun u hu => HI.out v v' cs u sl1 sl2 hu
          obtain ⟨va, vc, rfl, -⟩ := sl1
          obtain ⟨va', vc', rfl, -⟩ := sl2
          obtain ⟨nc, hnc⟩ : ∃ nc, cs.length = nc := ⟨_, rfl⟩
          rw [hnc] at HI2 q2 q5
          have HI3 : Hid (∀ o1 o2 : Obj, Calls Tryz.prog 29 #[.slice va nc vc, .slice va' nc vc'] ((wr.alloc o1).alloc o2).drew fun e w' => e = .returned (.bool true) ∧ Hid (Below w1.heap.size w1 w')) := fun o1 o2 => by
            have hbl : Below w1.heap.size w1 ((wr.alloc o1).alloc o2).drew := by
              have h1 := (HW.out.alloc HW.out.size o1)
              have h2 := h1.alloc h1.size o2
              exact h2.trans ((below_drewN ((wr.alloc o1).alloc o2) 1).mono h2.size)
            exact (HI2.out _ (HBw.out _ hbl)).mono fun e w' ⟨e1, e2⟩ => ⟨e1, hbl.trans (e2.out.mono hbl.size)⟩
          clear hnc p0 p1 p2 r0 r1 r2
          go_wp2_with fail
          go_region_held3 (fun u => u.cell? ⟨xa, 3, none⟩ = some (.slice (some ⟨b, off, none⟩) M ic) ∧ u.cell? ⟨xa + 1, 3, none⟩ = some (.slice (some ⟨b', off', none⟩) M ic') ∧ u.cell? ⟨b, off + k2 * 3, none⟩ = some (.string xn) ∧ u.cell? ⟨b, off + k2 * 3 + 1, none⟩ = some (.slice va nc vc) ∧ u.cell? ⟨b, off + k2 * 3 + 2, none⟩ = some (.bool un) ∧ u.cell? ⟨b', off' + k2 * 3, none⟩ = some (.string xn) ∧ u.cell? ⟨b', off' + k2 * 3 + 1, none⟩ = some (.slice va' nc vc') ∧ u.cell? ⟨b', off' + k2 * 3 + 2, none⟩ = some (.bool un)) (first | (refine ⟨?_, ?_, ?_, ?_, ?_, ?_, ?_, ?_⟩ <;> (repeat (first | with_reducible assumption | with_reducible apply cell_new | with_reducible apply cell_drew)) <;> done) | go_keep) (fail)
          all_goals (
            go_wp2_with (go_at_call 29; go_must (refine (HI3.out _ _).mono ?_; rintro e w5 ⟨rfl, HB5⟩))
            go_roundw
            case rel => exact ⟨k2 + 1, by omega, by go_num, HB5⟩
            case measure => simp [intOf]; omega)
        · have hlI2 : ¬ (k2 : Int) < (M : Int) := by omega
          go_wp2_with fail
          go_ret
          exact ⟨rfl, by rw [← hxa]; exact HBw.out _ HW.out⟩

end Go.Proofs.YtnboanlhdllhnaaGreat
