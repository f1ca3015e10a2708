/- The program's spread: a block's words. -/
import Derived.Test.YtibglhlhogfdnaaDoorQWord
import Derived.Deep.MidRow
namespace Go.Proofs.YtibglhlhogfdnaaDoor
open Go.RowKit QP

/-- the block g holds the array X, whole -/
def ArrG (k : IntKind) (t : TypeId) (w : World) (g : Nat) (X : List Nat) : Prop := w.heap[g]? = some (.cells (flat (enK k) X).toArray t (0, 0))
section
variable {k : IntKind} {t : TypeId} {w w' : World} {g : Nat} {X : List Nat}
theorem ArrG.row (h : ArrG k t w g X) : RowK k t w g X := ⟨_, h, by rw [List.toList_toArray, List.take_of_length_le (by rw [flatK_len]; exact Nat.le_refl _)]⟩
theorem ArrG.lt (h : ArrG k t w g X) : g < w.heap.size := lt_of h
theorem ArrG.same (h : ArrG k t w g X) (hb : w'.heap[g]? = w.heap[g]?) : ArrG k t w' g X := hb.trans h
theorem ArrG.below (h : ArrG k t w g X) (hb : Below w.heap.size w w') : ArrG k t w' g X := h.same (hb.block g h.lt)
theorem ArrG.set (h : ArrG k t w g X) {i : Nat} (hi : i < X.length) (y : Nat) : ArrG k t (w.setCell ⟨g, i, none⟩ (.int k (y : Int))) g (X.set i y) := by
  have h1 := heap_setCell_same h i (.int k (y : Int))
  have h3 := flat_set (en := enK k) (m := 1) (fun _ => rfl) X i hi 0 (.int k (y : Int)) y (by omega) rfl
  rw [Nat.one_mul, Nat.add_zero] at h3
  unfold ArrG
  rw [h1, ← h3, List.setIfInBounds_toArray]
theorem ArrG.new (w : World) (k : IntKind) (t : TypeId) (X : List Nat) : ArrG k t (w.alloc (.cells (flat (enK k) X).toArray t)) w.heap.size X := heap_new w _
end

theorem zeros64 : (#[.int .u32 0, .int .u32 0, .int .u32 0, .int .u32 0, .int .u32 0, .int .u32 0, .int .u32 0, .int .u32 0, .int .u32 0, .int .u32 0, .int .u32 0, .int .u32 0, .int .u32 0, .int .u32 0, .int .u32 0, .int .u32 0, .int .u32 0, .int .u32 0, .int .u32 0, .int .u32 0, .int .u32 0, .int .u32 0, .int .u32 0, .int .u32 0, .int .u32 0, .int .u32 0, .int .u32 0, .int .u32 0, .int .u32 0, .int .u32 0, .int .u32 0, .int .u32 0, .int .u32 0, .int .u32 0, .int .u32 0, .int .u32 0, .int .u32 0, .int .u32 0, .int .u32 0, .int .u32 0, .int .u32 0, .int .u32 0, .int .u32 0, .int .u32 0, .int .u32 0, .int .u32 0, .int .u32 0, .int .u32 0, .int .u32 0, .int .u32 0, .int .u32 0, .int .u32 0, .int .u32 0, .int .u32 0, .int .u32 0, .int .u32 0, .int .u32 0, .int .u32 0, .int .u32 0, .int .u32 0, .int .u32 0, .int .u32 0, .int .u32 0, .int .u32 0] : Array Value) = (flat (enK .u32) (List.replicate 64 0)).toArray := by kernel_rfl
theorem flatK_one (k : IntKind) : ∀ (Z : List Nat) (u : Value), u ∈ flat (enK k) Z → u.oneCell' = true
  | [], u, hu => by cases hu
  | z :: Z, u, hu => by
    rw [flat_cons] at hu
    rcases List.mem_append.1 hu with hu | hu
    · rw [List.mem_singleton.1 hu]; rfl
    · exact flatK_one k Z u hu
theorem below_setRow {b : Nat} {w u : World} (h : Below b w u) {g : Nat} (hg : b ≤ g) (C : Array Value) : Below b w (u.setRow g C) :=
  ⟨h.os, h.tape, h.output, by rw [setRow_size]; exact h.size, fun i hi => (setRow_other u g i C (by omega)).trans (h.block i hi)⟩
theorem cell_drewQ {w : World} {a : Addr} {v : Value} (h : w.cell? a = some v) : w.drew.cell? a = some v := h
/-- within spread: the block's own copy, the result's variable, the words so far -/
structure SpI (w : World) (m : List Nat) (X : List Nat) (u : World) : Prop where
  src : ArrG .u8 87 u w.heap.size m
  res : ArrG .u32 99 u (w.heap.size + 1) (List.replicate 64 0)
  row : ArrG .u32 99 u (w.heap.size + 1 + 1) X
  bel : Below w.heap.size w u
theorem SpI.set {w u : World} {m X : List Nat} (h : SpI w m X u) {i : Nat} (hi : i < X.length) (y : Nat) : SpI w m (X.set i y) (u.setCell ⟨w.heap.size + 1 + 1, i, none⟩ (.int .u32 (y : Int))) :=
  ⟨h.src.same (Go.heap_setCell_other _ _ _ _ (by show w.heap.size ≠ w.heap.size + 1 + 1; omega)), h.res.same (Go.heap_setCell_other _ _ _ _ (by show w.heap.size + 1 ≠ w.heap.size + 1 + 1; omega)), h.row.set hi y, h.bel.setCell (p := ⟨w.heap.size + 1 + 1, i, none⟩) (by show w.heap.size ≤ w.heap.size + 1 + 1; omega) _⟩
theorem SpI.drewN {w u : World} {m X : List Nat} (h : SpI w m X u) (n : Nat) : SpI w m X (u.drewN n) :=
  ⟨h.src, h.res, h.row, h.bel.trans ((below_drewN u n).mono h.bel.size)⟩
theorem three_heap (w : World) (A B D : Obj) : (((w.alloc A).alloc B).alloc D).heap[w.heap.size]? = some A ∧ (((w.alloc A).alloc B).alloc D).heap[w.heap.size + 1]? = some B ∧ (((w.alloc A).alloc B).alloc D).heap[w.heap.size + 1 + 1]? = some D ∧ Below w.heap.size w (((w.alloc A).alloc B).alloc D) := by
  have h1 := heap_new w A
  have h2 := heap_new (w.alloc A) B
  have h3 := heap_new ((w.alloc A).alloc B) D
  have b2 := (Below.heap_alloc ((w.alloc A)) B w.heap.size (by simp)).trans h1
  have b3 := (Below.heap_alloc ((w.alloc A).alloc B) D w.heap.size (by simp; omega)).trans b2
  rw [World.size_alloc] at h2
  have c3 := (Below.heap_alloc ((w.alloc A).alloc B) D (w.heap.size + 1) (by simp)).trans h2
  rw [World.size_alloc, World.size_alloc] at h3
  exact ⟨b3, c3, h3, (((Below.refl w.heap.size w).alloc (Nat.le_refl _) A).alloc (by simp) B).alloc (by simp; omega) D⟩
theorem SpI.start (w : World) (m : List Nat) : SpI w m (part64 []) (((w.alloc (.cells (flat (enK .u8) m).toArray 87)).alloc (.cells #[.int .u32 0, .int .u32 0, .int .u32 0, .int .u32 0, .int .u32 0, .int .u32 0, .int .u32 0, .int .u32 0, .int .u32 0, .int .u32 0, .int .u32 0, .int .u32 0, .int .u32 0, .int .u32 0, .int .u32 0, .int .u32 0, .int .u32 0, .int .u32 0, .int .u32 0, .int .u32 0, .int .u32 0, .int .u32 0, .int .u32 0, .int .u32 0, .int .u32 0, .int .u32 0, .int .u32 0, .int .u32 0, .int .u32 0, .int .u32 0, .int .u32 0, .int .u32 0, .int .u32 0, .int .u32 0, .int .u32 0, .int .u32 0, .int .u32 0, .int .u32 0, .int .u32 0, .int .u32 0, .int .u32 0, .int .u32 0, .int .u32 0, .int .u32 0, .int .u32 0, .int .u32 0, .int .u32 0, .int .u32 0, .int .u32 0, .int .u32 0, .int .u32 0, .int .u32 0, .int .u32 0, .int .u32 0, .int .u32 0, .int .u32 0, .int .u32 0, .int .u32 0, .int .u32 0, .int .u32 0, .int .u32 0, .int .u32 0, .int .u32 0, .int .u32 0] 99)).alloc (.cells #[.int .u32 0, .int .u32 0, .int .u32 0, .int .u32 0, .int .u32 0, .int .u32 0, .int .u32 0, .int .u32 0, .int .u32 0, .int .u32 0, .int .u32 0, .int .u32 0, .int .u32 0, .int .u32 0, .int .u32 0, .int .u32 0, .int .u32 0, .int .u32 0, .int .u32 0, .int .u32 0, .int .u32 0, .int .u32 0, .int .u32 0, .int .u32 0, .int .u32 0, .int .u32 0, .int .u32 0, .int .u32 0, .int .u32 0, .int .u32 0, .int .u32 0, .int .u32 0, .int .u32 0, .int .u32 0, .int .u32 0, .int .u32 0, .int .u32 0, .int .u32 0, .int .u32 0, .int .u32 0, .int .u32 0, .int .u32 0, .int .u32 0, .int .u32 0, .int .u32 0, .int .u32 0, .int .u32 0, .int .u32 0, .int .u32 0, .int .u32 0, .int .u32 0, .int .u32 0, .int .u32 0, .int .u32 0, .int .u32 0, .int .u32 0, .int .u32 0, .int .u32 0, .int .u32 0, .int .u32 0, .int .u32 0, .int .u32 0, .int .u32 0, .int .u32 0] 99)) := by
  rw [zeros64]
  obtain ⟨h1, h2, h3, h4⟩ := three_heap w (.cells (flat (enK .u8) m).toArray 87) (.cells (flat (enK .u32) (List.replicate 64 0)).toArray 99) (.cells (flat (enK .u32) (List.replicate 64 0)).toArray 99)
  exact ⟨h1, h2, h3, h4⟩

set_option maxRecDepth 100000 in
set_option maxHeartbeats 4000000 in
theorem spread_any (m : List Nat) (w : World) (hm : m.length = 64) (hb : ∀ x ∈ m, x < 256) : Calls Tryd.prog 58 #[.agg (flat (enK .u8) m).toArray] w fun e w' => e = .returned (.agg (flat (enK .u32) (sch m 48)).toArray) ∧ Below w.heap.size w w' := by
  have H0 : Hid (SpI w m (part64 []) (((w.alloc (.cells (flat (enK .u8) m).toArray 87)).alloc (.cells #[.int .u32 0, .int .u32 0, .int .u32 0, .int .u32 0, .int .u32 0, .int .u32 0, .int .u32 0, .int .u32 0, .int .u32 0, .int .u32 0, .int .u32 0, .int .u32 0, .int .u32 0, .int .u32 0, .int .u32 0, .int .u32 0, .int .u32 0, .int .u32 0, .int .u32 0, .int .u32 0, .int .u32 0, .int .u32 0, .int .u32 0, .int .u32 0, .int .u32 0, .int .u32 0, .int .u32 0, .int .u32 0, .int .u32 0, .int .u32 0, .int .u32 0, .int .u32 0, .int .u32 0, .int .u32 0, .int .u32 0, .int .u32 0, .int .u32 0, .int .u32 0, .int .u32 0, .int .u32 0, .int .u32 0, .int .u32 0, .int .u32 0, .int .u32 0, .int .u32 0, .int .u32 0, .int .u32 0, .int .u32 0, .int .u32 0, .int .u32 0, .int .u32 0, .int .u32 0, .int .u32 0, .int .u32 0, .int .u32 0, .int .u32 0, .int .u32 0, .int .u32 0, .int .u32 0, .int .u32 0, .int .u32 0, .int .u32 0, .int .u32 0, .int .u32 0] 99)).alloc (.cells #[.int .u32 0, .int .u32 0, .int .u32 0, .int .u32 0, .int .u32 0, .int .u32 0, .int .u32 0, .int .u32 0, .int .u32 0, .int .u32 0, .int .u32 0, .int .u32 0, .int .u32 0, .int .u32 0, .int .u32 0, .int .u32 0, .int .u32 0, .int .u32 0, .int .u32 0, .int .u32 0, .int .u32 0, .int .u32 0, .int .u32 0, .int .u32 0, .int .u32 0, .int .u32 0, .int .u32 0, .int .u32 0, .int .u32 0, .int .u32 0, .int .u32 0, .int .u32 0, .int .u32 0, .int .u32 0, .int .u32 0, .int .u32 0, .int .u32 0, .int .u32 0, .int .u32 0, .int .u32 0, .int .u32 0, .int .u32 0, .int .u32 0, .int .u32 0, .int .u32 0, .int .u32 0, .int .u32 0, .int .u32 0, .int .u32 0, .int .u32 0, .int .u32 0, .int .u32 0, .int .u32 0, .int .u32 0, .int .u32 0, .int .u32 0, .int .u32 0, .int .u32 0, .int .u32 0, .int .u32 0, .int .u32 0, .int .u32 0, .int .u32 0, .int .u32 0] 99))) := SpI.start w m
  have Hm64 : Hid (m.length = 64) := hm
  have Hmb : Hid (∀ x ∈ m, x < 256) := hb
  obtain ⟨C, hC⟩ : ∃ C, (flat (enK .u8) m).toArray = C := ⟨_, rfl⟩
  rw [hC] at H0 ⊢
  clear hC hm hb
  go_enter Tryd.func58, Tryd.ntmps58
  go_wp2_with fail
  obtain ⟨W0, hW0⟩ : ∃ W, ((w.alloc (.cells C 87)).alloc (.cells #[.int .u32 0, .int .u32 0, .int .u32 0, .int .u32 0, .int .u32 0, .int .u32 0, .int .u32 0, .int .u32 0, .int .u32 0, .int .u32 0, .int .u32 0, .int .u32 0, .int .u32 0, .int .u32 0, .int .u32 0, .int .u32 0, .int .u32 0, .int .u32 0, .int .u32 0, .int .u32 0, .int .u32 0, .int .u32 0, .int .u32 0, .int .u32 0, .int .u32 0, .int .u32 0, .int .u32 0, .int .u32 0, .int .u32 0, .int .u32 0, .int .u32 0, .int .u32 0, .int .u32 0, .int .u32 0, .int .u32 0, .int .u32 0, .int .u32 0, .int .u32 0, .int .u32 0, .int .u32 0, .int .u32 0, .int .u32 0, .int .u32 0, .int .u32 0, .int .u32 0, .int .u32 0, .int .u32 0, .int .u32 0, .int .u32 0, .int .u32 0, .int .u32 0, .int .u32 0, .int .u32 0, .int .u32 0, .int .u32 0, .int .u32 0, .int .u32 0, .int .u32 0, .int .u32 0, .int .u32 0, .int .u32 0, .int .u32 0, .int .u32 0, .int .u32 0] 99)).alloc (.cells #[.int .u32 0, .int .u32 0, .int .u32 0, .int .u32 0, .int .u32 0, .int .u32 0, .int .u32 0, .int .u32 0, .int .u32 0, .int .u32 0, .int .u32 0, .int .u32 0, .int .u32 0, .int .u32 0, .int .u32 0, .int .u32 0, .int .u32 0, .int .u32 0, .int .u32 0, .int .u32 0, .int .u32 0, .int .u32 0, .int .u32 0, .int .u32 0, .int .u32 0, .int .u32 0, .int .u32 0, .int .u32 0, .int .u32 0, .int .u32 0, .int .u32 0, .int .u32 0, .int .u32 0, .int .u32 0, .int .u32 0, .int .u32 0, .int .u32 0, .int .u32 0, .int .u32 0, .int .u32 0, .int .u32 0, .int .u32 0, .int .u32 0, .int .u32 0, .int .u32 0, .int .u32 0, .int .u32 0, .int .u32 0, .int .u32 0, .int .u32 0, .int .u32 0, .int .u32 0, .int .u32 0, .int .u32 0, .int .u32 0, .int .u32 0, .int .u32 0, .int .u32 0, .int .u32 0, .int .u32 0, .int .u32 0, .int .u32 0, .int .u32 0, .int .u32 0] 99) = W := ⟨_, rfl⟩
  rw [hW0] at H0 ⊢
  clear hW0
  obtain ⟨ps, hps⟩ : ∃ p, w.heap.size = p := ⟨_, rfl⟩
  obtain ⟨pr, hpr⟩ : ∃ p, ps + 1 = p := ⟨_, rfl⟩
  obtain ⟨pw, hpw⟩ : ∃ p, pr + 1 = p := ⟨_, rfl⟩
  rw [hps, hpr, hpw]
  have Hps : Hid (w.heap.size = ps) := hps
  have Hpr : Hid (w.heap.size + 1 = pr) := by show _ = _; rw [hps, hpr]
  have Hpw : Hid (w.heap.size + 1 + 1 = pw) := by show _ = _; rw [hps, hpr, hpw]
  clear hps hpr hpw
  go_loopw [11] (fun tv wr => ∃ t : Nat, t ≤ 16 ∧ tv = .int .i64 t ∧ Hid (SpI w m (part64 (f16 m t)) wr)) (fun tv _ => 16 - (intOf tv).toNat)
  case atStart => exact ⟨0, by omega, rfl, H0⟩
  case round =>
    obtain ⟨t, ht, rfl, HI⟩ := hrel
    clear H0
    by_cases hlt : t < 16
    · have hlI : (t : Int) < 16 := by omega
      have hsrc := HI.out.src.row
      rw [Hps.out] at hsrc
      have key : ∀ i, i < 4 → ∃ x, m.getD (4 * t + i) 0 = x ∧ x < 256 ∧ wr.cell? ⟨ps, 4 * t + i, none⟩ = some (.int .u8 (x : Int)) := fun i hi => by
        have hl : 4 * t + i < m.length := by rw [Hm64.out]; omega
        exact ⟨m[4 * t + i], by simp [hl], Hmb.out _ (List.getElem_mem hl), hsrc.cell (List.getElem?_eq_getElem hl)⟩
      obtain ⟨c0, g0, b0, d0⟩ := key 0 (by omega)
      obtain ⟨c1, g1, b1, d1⟩ := key 1 (by omega)
      obtain ⟨c2, g2, b2, d2⟩ := key 2 (by omega)
      obtain ⟨c3, g3, b3, d3⟩ := key 3 (by omega)
      rw [Nat.add_zero] at d0 g0
      obtain ⟨a, ea⟩ : ∃ a, 4 * t = a := ⟨_, rfl⟩
      have ha60 : a ≤ 60 := by omega
      have at4 : (t : Int) * 4 = (a : Int) := by omega
      have HW4 : Hid (wordAt m t = w4 c0 c1 c2 c3) := by show _ = _; unfold wordAt; rw [g0, g1, g2, g3]
      rw [ea] at d0 d1 d2 d3
      have hlen := f16_length m t
      have hl64 : t < (part64 (f16 m t)).length := by rw [part64_length (by omega)]; omega
      have hrow := HI.out.row.row
      rw [Hpw.out] at hrow
      have hfz := hrow.frozen t
      have hce := hrow.cell (i := t) (x := _) (List.getElem?_eq_getElem hl64)
      obtain ⟨z0, hz0⟩ : ∃ z, (part64 (f16 m t))[t] = z := ⟨_, rfl⟩
      rw [hz0] at hce
      obtain ⟨p1, ep1⟩ : ∃ p, c0 * 16777216 ||| c1 * 65536 = p := ⟨_, rfl⟩
      obtain ⟨p2, ep2⟩ : ∃ p, p1 ||| c2 * 256 = p := ⟨_, rfl⟩
      obtain ⟨p3, ep3⟩ : ∃ p, p2 ||| c3 = p := ⟨_, rfl⟩
      have hp1 : p1 < 4294967296 := by rw [← ep1]; exact or_lt (by omega) (by omega)
      have hp2 : p2 < 4294967296 := by rw [← ep2]; exact or_lt hp1 (by omega)
      have o1 : bits .or .u32 ((c0 : Int) * 16777216) ((c1 : Int) * 65536) = (p1 : Int) := by
        have := u32_or_nat (c0 * 16777216) (c1 * 65536) (by omega) (by omega)
        rw [ep1] at this
        simpa using this
      have o2 : bits .or .u32 (p1 : Int) ((c2 : Int) * 256) = (p2 : Int) := by
        have := u32_or_nat p1 (c2 * 256) hp1 (by omega)
        rw [ep2] at this
        simpa using this
      have o3 : bits .or .u32 (p2 : Int) (c3 : Int) = (p3 : Int) := by rw [u32_or_nat p2 c3 hp2 (by omega), ep3]
      have HN : Hid (SpI w m (part64 (f16 m (t + 1))) (wr.drew.setCell ⟨pw, t, none⟩ (.int .u32 (p3 : Int)))) := by
        have h1 := (HI.out.drewN 1).set hl64 p3
        have h2 := part64_set (W := f16 m t) (by omega) p3
        rw [hlen] at h2
        rw [h2, Hpw.out] at h1
        have h3 : f16 m (t + 1) = f16 m t ++ [p3] := by
          show f16 m t ++ [wordAt m t] = _
          rw [HW4.out, ← ep3, ← ep2, ← ep1]
          rfl
        show SpI _ _ _ _
        rw [h3]
        exact h1
      clear key hsrc hrow g0 g1 g2 g3 hz0 ep1 ep2 ep3 HW4 hlen hl64 hp1 hp2 HI ea
      go_wp2_with fail
      go_region
      go_wp2_with fail
      go_roundw
      case rel => exact ⟨t + 1, by omega, by go_num, HN⟩
      case measure => simp [intOf]; omega
    · obtain rfl : t = 16 := by omega
      have H1 : Hid (SpI w m (part64 (sch m 0)) wr) := HI.out
      clear HI hlt ht
      rw [show ((16 : Nat) : Int) = 16 from rfl]
      go_wp2_with fail
      go_loopw [7] (fun tv wr => ∃ (t n : Nat), tv = .int .i64 t ∧ t ≤ 64 ∧ Hid (t = 16 + n) ∧ Hid (SpI w m (part64 (sch m n)) wr)) (fun tv _ => 64 - (intOf tv).toNat)
      case atStart => exact ⟨16, 0, rfl, by omega, (rfl : _ = _), H1⟩
      case round =>
        clear H1
        obtain ⟨t, n, rfl, ht, HTn, HI⟩ := hrel
        by_cases hlt : t < 64
        · have hlI : (t : Int) < 64 := by omega
          have htn := HTn.out
          have hlen := sch_length m n
          have hsm := sch_small Hmb.out n
          obtain ⟨W, hWe⟩ : ∃ W, sch m n = W := ⟨_, rfl⟩
          have HNs : Hid (sch m (n + 1) = W ++ [nxt W]) := by show _ ++ _ = _; rw [hWe]
          rw [hWe] at HI hlen hsm
          have hrow := HI.out.row.row
          rw [Hpw.out] at hrow
          have hplt : pw < wr.heap.size := hrow.lt
          have key : ∀ i, 0 < i → i ≤ 16 → ∃ x, W.getD (W.length - i) 0 = x ∧ x < 4294967296 ∧ wr.cell? ⟨pw, t - i, none⟩ = some (.int .u32 (x : Int)) := fun i hi0 hi => by
            have hl : t - i < W.length := by omega
            refine ⟨W[t - i], ?_, hsm _ (List.getElem_mem hl), hrow.cell (part64_at (List.getElem?_eq_getElem hl))⟩
            rw [hlen, ← htn]
            simp [hl]
          obtain ⟨x15, g15, b15, d15⟩ := key 15 (by omega) (by omega)
          obtain ⟨x2, g2, b2, d2⟩ := key 2 (by omega) (by omega)
          obtain ⟨x7, g7, b7, d7⟩ := key 7 (by omega) (by omega)
          obtain ⟨x16, g16, b16, d16⟩ := key 16 (by omega) (by omega)
          have HNx : Hid (nxt W = nxtW x15 x2 x7 x16) := by show _ = _; unfold nxt; rw [g15, g2, g7, g16]
          have hl64 : t < (part64 W).length := by rw [part64_length (by omega)]; omega
          have hfz := hrow.frozen t
          have hce := hrow.cell (i := t) (x := _) (List.getElem?_eq_getElem hl64)
          obtain ⟨z0, hz0⟩ : ∃ z, (part64 W)[t] = z := ⟨_, rfl⟩
          rw [hz0] at hce
          obtain ⟨a15, ea15⟩ : ∃ a, t - 15 = a := ⟨_, rfl⟩
          obtain ⟨a2, ea2⟩ : ∃ a, t - 2 = a := ⟨_, rfl⟩
          obtain ⟨a7, ea7⟩ : ∃ a, t - 7 = a := ⟨_, rfl⟩
          obtain ⟨a16, ea16⟩ : ∃ a, t - 16 = a := ⟨_, rfl⟩
          rw [ea15] at d15
          rw [ea2] at d2
          rw [ea7] at d7
          rw [ea16] at d16
          have i15 : (t : Int) - 15 = (a15 : Int) := by omega
          have i2 : (t : Int) - 2 = (a2 : Int) := by omega
          have i7 : (t : Int) - 7 = (a7 : Int) := by omega
          have i16 : (t : Int) - 16 = (a16 : Int) := by omega
          have k15 : a15 < 64 := by omega
          have k2 : a2 < 64 := by omega
          have k7 : a7 < 64 := by omega
          have k16 : a16 < 64 := by omega
          have j7 : (a7 : Int) < 64 := by omega
          have j16 : (a16 : Int) < 64 := by omega
          have l7 : (0 : Int) ≤ (a7 : Int) := by omega
          have l16 : (0 : Int) ≤ (a16 : Int) := by omega
          have lt0 : (0 : Int) ≤ (t : Int) := by omega
          have w7 : IntKind.i64.wrap (a7 : Int) = (a7 : Int) := wrapI (by omega) (by omega)
          have w16 : IntKind.i64.wrap (a16 : Int) = (a16 : Int) := wrapI (by omega) (by omega)
          have n7 : ¬ t = a7 := by omega
          have n16 : ¬ t = a16 := by omega
          have m7 : (0 : Int) ≤ (a7 : Int) ∧ (a7 : Int) < 64 := ⟨l7, j7⟩
          have m16 : (0 : Int) ≤ (a16 : Int) ∧ (a16 : Int) < 64 := ⟨l16, j16⟩
          obtain ⟨r7, er7⟩ : ∃ r, rot x15 7 = r := ⟨_, rfl⟩
          have hr7 : r7 < 4294967296 := by rw [← er7]; exact rot_lt b15
          have Tr7 : Hid (∀ u, Calls Tryd.prog 59 #[.int .u32 x15, .int .i64 7] u fun e w' => e = .returned (.int .u32 (r7 : Nat)) ∧ w' = u) := fun u => er7 ▸ right_any x15 7 u b15 (by omega) (by omega)
          obtain ⟨r18, er18⟩ : ∃ r, rot x15 18 = r := ⟨_, rfl⟩
          have hr18 : r18 < 4294967296 := by rw [← er18]; exact rot_lt b15
          have Tr18 : Hid (∀ u, Calls Tryd.prog 59 #[.int .u32 x15, .int .i64 18] u fun e w' => e = .returned (.int .u32 (r18 : Nat)) ∧ w' = u) := fun u => er18 ▸ right_any x15 18 u b15 (by omega) (by omega)
          obtain ⟨r17, er17⟩ : ∃ r, rot x2 17 = r := ⟨_, rfl⟩
          have hr17 : r17 < 4294967296 := by rw [← er17]; exact rot_lt b2
          have Tr17 : Hid (∀ u, Calls Tryd.prog 59 #[.int .u32 x2, .int .i64 17] u fun e w' => e = .returned (.int .u32 (r17 : Nat)) ∧ w' = u) := fun u => er17 ▸ right_any x2 17 u b2 (by omega) (by omega)
          obtain ⟨r19, er19⟩ : ∃ r, rot x2 19 = r := ⟨_, rfl⟩
          have hr19 : r19 < 4294967296 := by rw [← er19]; exact rot_lt b2
          have Tr19 : Hid (∀ u, Calls Tryd.prog 59 #[.int .u32 x2, .int .i64 19] u fun e w' => e = .returned (.int .u32 (r19 : Nat)) ∧ w' = u) := fun u => er19 ▸ right_any x2 19 u b2 (by omega) (by omega)
          obtain ⟨q1, eq1⟩ : ∃ q, r7 ^^^ r18 = q := ⟨_, rfl⟩
          obtain ⟨q2, eq2⟩ : ∃ q, r17 ^^^ r19 = q := ⟨_, rfl⟩
          obtain ⟨f0, ef0⟩ : ∃ q, q1 ^^^ x15 / 8 = q := ⟨_, rfl⟩
          obtain ⟨f1, ef1⟩ : ∃ q, q2 ^^^ x2 / 1024 = q := ⟨_, rfl⟩
          have hq1 : q1 < 4294967296 := by rw [← eq1]; exact xor_lt hr7 hr18
          have hq2 : q2 < 4294967296 := by rw [← eq2]; exact xor_lt hr17 hr19
          have hf0 : f0 < 4294967296 := by rw [← ef0]; exact xor_lt hq1 (by omega)
          have hf1 : f1 < 4294967296 := by rw [← ef1]; exact xor_lt hq2 (by omega)
          have u1 : bits .xor .u32 (r7 : Int) (r18 : Int) = (q1 : Int) := by rw [u32_xor_nat r7 r18 hr7 hr18, eq1]
          have u2 : bits .xor .u32 (r17 : Int) (r19 : Int) = (q2 : Int) := by rw [u32_xor_nat r17 r19 hr17 hr19, eq2]
          have u3 : bits .xor .u32 (q1 : Int) ((x15 : Int) / 8) = (f0 : Int) := by
            have := u32_xor_nat q1 (x15 / 8) hq1 (by omega)
            rw [ef0] at this
            simpa using this
          have u4 : bits .xor .u32 (q2 : Int) ((x2 : Int) / 1024) = (f1 : Int) := by
            have := u32_xor_nat q2 (x2 / 1024) hq2 (by omega)
            rw [ef1] at this
            simpa using this
          have sum (x y : Nat) : ∃ z : Nat, (x + y) % 4294967296 = z ∧ IntKind.u32.wrap ((x : Int) + (y : Int)) = (z : Int) ∧ ((x : Int) + (y : Int)) % 4294967296 = (z : Int) := ⟨_, rfl, by rw [IntKind.wrap_u32']; omega, by omega⟩
          obtain ⟨s1', es1, p1, o1⟩ := sum f1 x7
          obtain ⟨s2', es2, p2, o2⟩ := sum s1' f0
          obtain ⟨y, es3, p3, o3⟩ := sum s2' x16
          have hy : y = nxt W := by
            rw [HNx.out]
            unfold nxtW s0 s1
            rw [er7, er18, er17, er19, eq1, eq2, ef0, ef1]
            omega
          have HN : Hid (SpI w m (part64 (sch m (n + 1))) (wr.setCell ⟨pw, t, none⟩ (.int .u32 (y : Int))).drew.drew) := by
            have h1 := (HI.out.set hl64 y).drewN 2
            have h2 := part64_set (W := W) (by omega) y
            rw [hlen, ← htn] at h2
            rw [h2, Hpw.out] at h1
            show SpI _ _ _ _
            rw [HNs.out, ← hy]
            exact h1
          have f7 : (wr.setCell ⟨pw, t, none⟩ (.int .u32 (y : Int))).cell? ⟨pw, a7, none⟩ = some (.int .u32 (x7 : Int)) := (World.cell?_setCell_other _ _ _ _ (by intro e; simp only [Addr.mk.injEq] at e; omega)).trans d7
          have f16 : (wr.setCell ⟨pw, t, none⟩ (.int .u32 (y : Int))).cell? ⟨pw, a16, none⟩ = some (.int .u32 (x16 : Int)) := (World.cell?_setCell_other _ _ _ _ (by intro e; simp only [Addr.mk.injEq] at e; omega)).trans d16
          have HT2 : Hid (t + 1 = 16 + (n + 1)) := by show _ = _; omega
          clear key sum g15 g2 g7 g16 hz0 ea15 ea2 ea7 ea16 hlen htn er7 er18 er17 er19 hr7 hr18 hr17 hr19 eq1 eq2 ef0 ef1 hq1 hq2 hf0 hf1 hy es1 es2 es3 hl64 hsm hWe hrow HI
          go_wp2_with fail
          go_region
          go_wp2_with fail
          go_region_held3 (fun u => u.cell? ⟨pw, a7, none⟩ = some (.int .u32 (x7 : Int)) ∧ u.cell? ⟨pw, a16, none⟩ = some (.int .u32 (x16 : Int))) (first | (refine ⟨?_, ?_⟩ <;> (repeat (first | with_reducible assumption | with_reducible apply cell_drewQ)) <;> done) | go_keep) ((go_at_call 59; first | (refine (Tr17.out _).mono ?_; rintro e w2 ⟨rfl, rfl⟩) | (refine (Tr19.out _).mono ?_; rintro e w2 ⟨rfl, rfl⟩) | (refine (Tr7.out _).mono ?_; rintro e w2 ⟨rfl, rfl⟩) | (refine (Tr18.out _).mono ?_; rintro e w2 ⟨rfl, rfl⟩)))
          go_wp2_with fail
          go_roundw
          case rel => exact ⟨t + 1, n + 1, by go_num, by omega, HT2, HN⟩
          case measure => simp [intOf]; omega
        · have hn48 : n = 48 := by have := HTn.out; omega
          subst hn48
          obtain rfl : t = 64 := by omega
          have hlI : ¬ ((64 : Nat) : Int) < 64 := by omega
          obtain ⟨W, hWe⟩ : ∃ W, sch m 48 = W := ⟨_, rfl⟩
          have hl48 := sch_length m 48
          have hI := HI.out
          rw [part64_full (sch_length m 48), hWe] at hI
          rw [hWe] at hl48
          have hw := hI.row
          have hr := hI.res
          rw [Hpw.out] at hw
          rw [Hpr.out] at hr
          have HW : Hid (ArrG .u32 99 wr pw W) := hw
          have HR : Hid (ArrG .u32 99 wr pr (List.replicate 64 0)) := hr
          have HB : Hid (Below w.heap.size w wr) := hI.bel
          have Hle : Hid (w.heap.size ≤ pr) := by show _ ≤ _; rw [← Hpr.out]; omega
          have HSz : Hid ((Tryd.prog.info? 99).map (·.size) = some (flat (enK .u32) W).toArray.size) := by show _ = _; rw [List.size_toArray, flatK_len, hl48]; kernel_rfl
          have HOl : Hid ((flat (enK .u32) (List.replicate 64 0)).toArray.size = (flat (enK .u32) W).toArray.size) := by show _ = _; rw [List.size_toArray, List.size_toArray, flatK_len, flatK_len, hl48, List.length_replicate]
          have HO : Hid ((flat (enK .u32) W).toArray.all (·.oneCell') = true) := all_oneCell_toArray (flatK_one .u32 W)
          obtain ⟨D, hD⟩ : ∃ D, (flat (enK .u32) W).toArray = D := ⟨_, rfl⟩
          unfold ArrG at HW
          rw [hD] at HW HSz HOl HO
          have HD : Hid ((flat (enK .u32) (sch m 48)).toArray = D) := by show _ = _; rw [hWe, hD]
          clear hI hw hr hWe hl48 HI HTn hlt ht hD
          go_wp2_with (first | (refine wpList_load_row rfl 99 _ rfl pw rfl 99 D (0, 0) _ HW.out Tryd.underlying99 rfl HSz.out ?_) | (refine wpList_store_row rfl 99 _ _ rfl pr D rfl rfl 99 _ HR.out HSz.out HOl.out HO.out ?_))
          have hfin := setRow_heap wr pr _ D _ _ HR.out
          refine bodyPost_ret (results_cell_row (p := 2) (ty := 99) rfl _ _ pr 99 D (0, 0) _ rfl hfin Tryd.underlying99 rfl HSz.out) rfl ⟨by rw [HD.out], ?_⟩
          exact below_setRow HB.out Hle.out _
end Go.Proofs.YtibglhlhogfdnaaDoor
