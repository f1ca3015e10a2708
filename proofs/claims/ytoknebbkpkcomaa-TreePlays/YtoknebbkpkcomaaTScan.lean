/- The program's Scan. -/
import Derived.Test.YtoknebbkpkcomaaTIter
namespace Go.Proofs.Ytoknebbkpkcomaa
open Go.RowKit Go.Shelf

attribute [local go_sem] Oper.semAt_some

abbrev noteV (ps : Nat) : Value := .func (.func 30) #[] #[.pointer (some ⟨ps, 0, none⟩)]
abbrev w8 (w : World) (t : Nat) (f to : ByteArray) (mm : Int) : World :=
  (((((((w.alloc (.cells #[.int .i64 mm] 3)).alloc (.cells #[.slice none 0 0] 26)).alloc (.cells #[.slice none 0 0] 27)).alloc (.cells #[.slice none 0 0] 34)).alloc (.cells #[.pointer (some ⟨t, 0, none⟩)] 23)).alloc (.cells #[.string f] 9)).alloc (.cells #[.string to] 9)).alloc (.cells #[noteV (w.heap.size + 3)] 75)

set_option maxRecDepth 100000 in
theorem walk_any (t ps : Nat) (f to : ByteArray) (w : World) : Calls Try.prog 32 #[.pointer (some ⟨t, 0, none⟩), .string f, .string to, noteV ps] w fun e w' => e = .returned (.func (.func 44) #[] #[.pointer (some ⟨w.heap.size, 0, none⟩), .pointer (some ⟨w.heap.size + 1, 0, none⟩), .pointer (some ⟨w.heap.size + 2, 0, none⟩), .pointer (some ⟨w.heap.size + 3, 0, none⟩)]) ∧ w' = (((w.alloc (.cells #[.pointer (some ⟨t, 0, none⟩)] 23)).alloc (.cells #[.string f] 9)).alloc (.cells #[.string to] 9)).alloc (.cells #[noteV ps] 75) := by
  go_enter Try.func32, Try.ntmps32
  go_wp2
  go_ret
  exact ⟨rfl, rfl⟩

/-- what Scan tells -/
def ScanR (T : Tr) (w : World) (f to : ByteArray) (most : Nat) (e : Ending) (w' : World) : Prop :=
  ∃ told seen vk vv vs, e = .returned (.tuple #[vk, vv, vs, .int .i64 0]) ∧ Scanned T.ls f to most told seen ∧ w'.ownsRow w.heap.size 9 1 vk told.length (scells (keysOf told)) ∧ w'.ownsRow w.heap.size 3 1 vv told.length (icells (valsOf told)) ∧ w'.ownsRow w.heap.size 73 3 vs seen.length (flat enSn seen) ∧
    (∀ i, vk.ownBlock = some i → vv.ownBlock ≠ some i ∧ vs.ownBlock ≠ some i) ∧ (∀ i, vv.ownBlock = some i → vs.ownBlock ≠ some i) ∧ Below w.heap.size w w'

section
variable {w : World} {t a most : Nat} {T : Tr} {F : Nat → Prop} {f to : ByteArray}

theorem w8_at (w : World) (t : Nat) (f to : ByteArray) (mm : Int) : (w8 w t f to mm).heap.size = w.heap.size + 8 ∧ Below w.heap.size w (w8 w t f to mm) ∧
    (w8 w t f to mm).heap[w.heap.size]? = some (boxO (.int .i64 mm) 3) ∧ (w8 w t f to mm).heap[w.heap.size + 1]? = some (boxO (.slice none 0 0) 26) ∧ (w8 w t f to mm).heap[w.heap.size + 2]? = some (boxO (.slice none 0 0) 27) ∧ (w8 w t f to mm).heap[w.heap.size + 3]? = some (boxO (.slice none 0 0) 34) ∧
    (w8 w t f to mm).heap[w.heap.size + 4]? = some (boxO (.pointer (some ⟨t, 0, none⟩)) 23) ∧ (w8 w t f to mm).heap[w.heap.size + 5]? = some (boxO (.string f) 9) ∧ (w8 w t f to mm).heap[w.heap.size + 6]? = some (boxO (.string to) 9) ∧ (w8 w t f to mm).heap[w.heap.size + 7]? = some (boxO (noteV (w.heap.size + 3)) 75) := by
  have key : ∀ (w0 : World) (o : Obj) (k : Nat), k = w0.heap.size → (w0.alloc o).heap[k]? = some o := fun w0 o k hk => by rw [hk]; exact heap_new w0 o
  have old : ∀ (w0 : World) (o : Obj) (k : Nat), k < w0.heap.size → (w0.alloc o).heap[k]? = w0.heap[k]? := fun w0 o k hk => Below.heap_alloc w0 o k hk
  refine ⟨by simp [w8], ?_, ?_, ?_, ?_, ?_, ?_, ?_, ?_, ?_⟩
  · unfold w8
    repeat' first | exact Below.refl _ _ | refine Below.alloc ?_ (by simp; try omega) _
  · unfold w8
    rw [old _ _ _ (by simp; omega), old _ _ _ (by simp; omega), old _ _ _ (by simp; omega), old _ _ _ (by simp; omega), old _ _ _ (by simp; omega), old _ _ _ (by simp; omega), old _ _ _ (by simp)]
    exact key _ _ _ rfl
  · unfold w8
    rw [old _ _ _ (by simp), old _ _ _ (by simp), old _ _ _ (by simp), old _ _ _ (by simp), old _ _ _ (by simp), old _ _ _ (by simp)]
    exact key _ _ _ (by simp)
  · unfold w8
    rw [old _ _ _ (by simp), old _ _ _ (by simp), old _ _ _ (by simp), old _ _ _ (by simp), old _ _ _ (by simp)]
    exact key _ _ _ (by simp)
  · unfold w8
    rw [old _ _ _ (by simp), old _ _ _ (by simp), old _ _ _ (by simp), old _ _ _ (by simp)]
    exact key _ _ _ (by simp)
  · unfold w8
    rw [old _ _ _ (by simp), old _ _ _ (by simp), old _ _ _ (by simp)]
    exact key _ _ _ (by simp)
  · unfold w8
    rw [old _ _ _ (by simp), old _ _ _ (by simp)]
    exact key _ _ _ (by simp)
  · unfold w8
    rw [old _ _ _ (by simp)]
    exact key _ _ _ (by simp)
  · unfold w8
    exact key _ _ _ (by simp)

theorem same_any {u : World} {a : Addr} {v : Value} (h : u.cell? a = some v) (x : Addr) : (u.setCell a v).cell? x = u.cell? x := by
  by_cases e : a = x
  · subst e
    rw [World.cell?_setCell_same _ _ _ h, h]
  · exact World.cell?_setCell_other _ _ _ _ e
theorem same_frozen (u : World) (a x : Addr) (v : Value) : (u.setCell a v).frozen? x = u.frozen? x := by simp
theorem keep6 {u : World} {a x1 x2 x3 : Addr} {v v1 v2 v3 : Value} (h : u.cell? a = some v) (k : u.cell? x1 = some v1 ∧ u.cell? x2 = some v2 ∧ u.cell? x3 = some v3 ∧ u.frozen? x1 = false ∧ u.frozen? x2 = false ∧ u.frozen? x3 = false) : (u.setCell a v).cell? x1 = some v1 ∧ (u.setCell a v).cell? x2 = some v2 ∧ (u.setCell a v).cell? x3 = some v3 ∧ (u.setCell a v).frozen? x1 = false ∧ (u.setCell a v).frozen? x2 = false ∧ (u.setCell a v).frozen? x3 = false := by
  rw [same_any h, same_any h, same_any h, same_frozen, same_frozen, same_frozen]
  exact k
theorem k60 {u : World} {x1 x2 x3 : Addr} {v1 v2 v3 : Value} (k : u.cell? x1 = some v1 ∧ u.cell? x2 = some v2 ∧ u.cell? x3 = some v3 ∧ u.frozen? x1 = false ∧ u.frozen? x2 = false ∧ u.frozen? x3 = false) : u.drew.cell? x1 = some v1 ∧ u.drew.cell? x2 = some v2 ∧ u.drew.cell? x3 = some v3 ∧ u.drew.frozen? x1 = false ∧ u.drew.frozen? x2 = false ∧ u.drew.frozen? x3 = false := k
theorem k61 {u : World} {x1 x2 x3 : Addr} {v1 v2 v3 : Value} (k : u.cell? x1 = some v1 ∧ u.cell? x2 = some v2 ∧ u.cell? x3 = some v3 ∧ u.frozen? x1 = false ∧ u.frozen? x2 = false ∧ u.frozen? x3 = false) : (u.setCell x1 v1).drew.cell? x1 = some v1 ∧ (u.setCell x1 v1).drew.cell? x2 = some v2 ∧ (u.setCell x1 v1).drew.cell? x3 = some v3 ∧ (u.setCell x1 v1).drew.frozen? x1 = false ∧ (u.setCell x1 v1).drew.frozen? x2 = false ∧ (u.setCell x1 v1).drew.frozen? x3 = false := keep6 (u := u) k.1 k
theorem k62 {u : World} {x1 x2 x3 : Addr} {v1 v2 v3 : Value} (k : u.cell? x1 = some v1 ∧ u.cell? x2 = some v2 ∧ u.cell? x3 = some v3 ∧ u.frozen? x1 = false ∧ u.frozen? x2 = false ∧ u.frozen? x3 = false) : ((u.setCell x1 v1).setCell x2 v2).drew.cell? x1 = some v1 ∧ ((u.setCell x1 v1).setCell x2 v2).drew.cell? x2 = some v2 ∧ ((u.setCell x1 v1).setCell x2 v2).drew.cell? x3 = some v3 ∧ ((u.setCell x1 v1).setCell x2 v2).drew.frozen? x1 = false ∧ ((u.setCell x1 v1).setCell x2 v2).drew.frozen? x2 = false ∧ ((u.setCell x1 v1).setCell x2 v2).drew.frozen? x3 = false := keep6 (u := (u.setCell x1 v1)) (k61 k).2.1 (k61 k)
theorem k63 {u : World} {x1 x2 x3 : Addr} {v1 v2 v3 : Value} (k : u.cell? x1 = some v1 ∧ u.cell? x2 = some v2 ∧ u.cell? x3 = some v3 ∧ u.frozen? x1 = false ∧ u.frozen? x2 = false ∧ u.frozen? x3 = false) : (((u.setCell x1 v1).setCell x2 v2).setCell x3 v3).drew.cell? x1 = some v1 ∧ (((u.setCell x1 v1).setCell x2 v2).setCell x3 v3).drew.cell? x2 = some v2 ∧ (((u.setCell x1 v1).setCell x2 v2).setCell x3 v3).drew.cell? x3 = some v3 ∧ (((u.setCell x1 v1).setCell x2 v2).setCell x3 v3).drew.frozen? x1 = false ∧ (((u.setCell x1 v1).setCell x2 v2).setCell x3 v3).drew.frozen? x2 = false ∧ (((u.setCell x1 v1).setCell x2 v2).setCell x3 v3).drew.frozen? x3 = false := keep6 (u := ((u.setCell x1 v1).setCell x2 v2)) (k62 k).2.2.1 (k62 k)
theorem box_same {w : World} {p : Nat} {v : Value} {ty : TypeId} (h : w.heap[p]? = some (boxO v ty)) (i : Nat) : (w.setCell ⟨p, 0, none⟩ v).heap[i]? = w.heap[i]? := by
  by_cases e : i = p
  · subst e
    rw [heap_setCell_same h, h]
    rfl
  · exact Below.heap_setCell _ ⟨p, 0, none⟩ _ i e
theorem set3_same {w : World} {p q r : Nat} {v1 v2 v3 : Value} {t1 t2 t3 : TypeId} (h1 : w.heap[p]? = some (boxO v1 t1)) (h2 : w.heap[q]? = some (boxO v2 t2)) (h3 : w.heap[r]? = some (boxO v3 t3)) (i : Nat) : (((w.setCell ⟨p, 0, none⟩ v1).setCell ⟨q, 0, none⟩ v2).setCell ⟨r, 0, none⟩ v3).heap[i]? = w.heap[i]? := by
  have e2 := (box_same h1 q).trans h2
  have e3 := (box_same e2 r).trans ((box_same h1 r).trans h3)
  rw [box_same e3, box_same e2, box_same h1]
theorem ownsRow_from {w : World} {base : Nat} {e : TypeId} {size n : Nat} {v : Value} {xs : List Value} (h : w.ownsRow 0 e size v n xs) (hb : ∀ i, v.ownBlock = some i → base ≤ i) : w.ownsRow base e size v n xs := by
  refine ⟨h.1, ?_⟩
  rcases h.2 with k | ⟨g, cap, cur, k1, _, k3⟩
  · exact Or.inl k
  · exact Or.inr ⟨g, cap, cur, k1, hb g (by rw [k1]; rfl), k3⟩
theorem arr44 (T : Array Value) (h : T.size = 44) : ∃ v0 v1 v2 v3 v4 v5 v6 v7 v8 v9 v10 v11 v12 v13 v14 v15 v16 v17 v18 v19 v20 v21 v22 v23 v24 v25 v26 v27 v28 v29 v30 v31 v32 v33 v34 v35 v36 v37 v38 v39 v40 v41 v42 v43, T = #[v0, v1, v2, v3, v4, v5, v6, v7, v8, v9, v10, v11, v12, v13, v14, v15, v16, v17, v18, v19, v20, v21, v22, v23, v24, v25, v26, v27, v28, v29, v30, v31, v32, v33, v34, v35, v36, v37, v38, v39, v40, v41, v42, v43] := by
  obtain ⟨l⟩ := T
  have h : l.length = 44 := h
  rcases l with _ | ⟨v0, l⟩
  · simp at h
  rw [List.length_cons] at h
  rcases l with _ | ⟨v1, l⟩
  · simp at h
  rw [List.length_cons] at h
  rcases l with _ | ⟨v2, l⟩
  · simp at h
  rw [List.length_cons] at h
  rcases l with _ | ⟨v3, l⟩
  · simp at h
  rw [List.length_cons] at h
  rcases l with _ | ⟨v4, l⟩
  · simp at h
  rw [List.length_cons] at h
  rcases l with _ | ⟨v5, l⟩
  · simp at h
  rw [List.length_cons] at h
  rcases l with _ | ⟨v6, l⟩
  · simp at h
  rw [List.length_cons] at h
  rcases l with _ | ⟨v7, l⟩
  · simp at h
  rw [List.length_cons] at h
  rcases l with _ | ⟨v8, l⟩
  · simp at h
  rw [List.length_cons] at h
  rcases l with _ | ⟨v9, l⟩
  · simp at h
  rw [List.length_cons] at h
  rcases l with _ | ⟨v10, l⟩
  · simp at h
  rw [List.length_cons] at h
  rcases l with _ | ⟨v11, l⟩
  · simp at h
  rw [List.length_cons] at h
  rcases l with _ | ⟨v12, l⟩
  · simp at h
  rw [List.length_cons] at h
  rcases l with _ | ⟨v13, l⟩
  · simp at h
  rw [List.length_cons] at h
  rcases l with _ | ⟨v14, l⟩
  · simp at h
  rw [List.length_cons] at h
  rcases l with _ | ⟨v15, l⟩
  · simp at h
  rw [List.length_cons] at h
  rcases l with _ | ⟨v16, l⟩
  · simp at h
  rw [List.length_cons] at h
  rcases l with _ | ⟨v17, l⟩
  · simp at h
  rw [List.length_cons] at h
  rcases l with _ | ⟨v18, l⟩
  · simp at h
  rw [List.length_cons] at h
  rcases l with _ | ⟨v19, l⟩
  · simp at h
  rw [List.length_cons] at h
  rcases l with _ | ⟨v20, l⟩
  · simp at h
  rw [List.length_cons] at h
  rcases l with _ | ⟨v21, l⟩
  · simp at h
  rw [List.length_cons] at h
  rcases l with _ | ⟨v22, l⟩
  · simp at h
  rw [List.length_cons] at h
  rcases l with _ | ⟨v23, l⟩
  · simp at h
  rw [List.length_cons] at h
  rcases l with _ | ⟨v24, l⟩
  · simp at h
  rw [List.length_cons] at h
  rcases l with _ | ⟨v25, l⟩
  · simp at h
  rw [List.length_cons] at h
  rcases l with _ | ⟨v26, l⟩
  · simp at h
  rw [List.length_cons] at h
  rcases l with _ | ⟨v27, l⟩
  · simp at h
  rw [List.length_cons] at h
  rcases l with _ | ⟨v28, l⟩
  · simp at h
  rw [List.length_cons] at h
  rcases l with _ | ⟨v29, l⟩
  · simp at h
  rw [List.length_cons] at h
  rcases l with _ | ⟨v30, l⟩
  · simp at h
  rw [List.length_cons] at h
  rcases l with _ | ⟨v31, l⟩
  · simp at h
  rw [List.length_cons] at h
  rcases l with _ | ⟨v32, l⟩
  · simp at h
  rw [List.length_cons] at h
  rcases l with _ | ⟨v33, l⟩
  · simp at h
  rw [List.length_cons] at h
  rcases l with _ | ⟨v34, l⟩
  · simp at h
  rw [List.length_cons] at h
  rcases l with _ | ⟨v35, l⟩
  · simp at h
  rw [List.length_cons] at h
  rcases l with _ | ⟨v36, l⟩
  · simp at h
  rw [List.length_cons] at h
  rcases l with _ | ⟨v37, l⟩
  · simp at h
  rw [List.length_cons] at h
  rcases l with _ | ⟨v38, l⟩
  · simp at h
  rw [List.length_cons] at h
  rcases l with _ | ⟨v39, l⟩
  · simp at h
  rw [List.length_cons] at h
  rcases l with _ | ⟨v40, l⟩
  · simp at h
  rw [List.length_cons] at h
  rcases l with _ | ⟨v41, l⟩
  · simp at h
  rw [List.length_cons] at h
  rcases l with _ | ⟨v42, l⟩
  · simp at h
  rw [List.length_cons] at h
  rcases l with _ | ⟨v43, l⟩
  · simp at h
  rw [List.length_cons] at h
  rcases l with _ | ⟨y, l⟩
  · exact ⟨v0, v1, v2, v3, v4, v5, v6, v7, v8, v9, v10, v11, v12, v13, v14, v15, v16, v17, v18, v19, v20, v21, v22, v23, v24, v25, v26, v27, v28, v29, v30, v31, v32, v33, v34, v35, v36, v37, v38, v39, v40, v41, v42, v43, rfl⟩
  · simp at h

/-- a box is found in a frame of letters -/
theorem getD_some {T : Array Value} {j : Nat} {v : Value} (h : T[j]? = some v) : T.getD j undef = v := by
  rw [Array.getD_eq_getD_getElem?, h]
  rfl

set_option maxRecDepth 100000 in
set_option maxHeartbeats 4000000 in
theorem tscan_any (h : TreeI t T a w F) (h1 : 1 ≤ most) (h2 : most ≤ 4096) : Calls Try.prog 12 #[.pointer (some ⟨t, 0, none⟩), .string f, .string to, .int .i64 (most : Int)] w (ScanR T w f to most) := by
  obtain ⟨b, m, c, hG, hO, hF⟩ := h
  have n1 : ¬ (most : Int) < 1 := by omega
  have n2 : ¬ (4096 : Int) < (most : Int) := by omega
  have HW : Hid (∀ (ps : Nat) (w : World), Calls Try.prog 32 #[.pointer (some ⟨t, 0, none⟩), .string f, .string to, noteV ps] w fun e w' => e = .returned (.func (.func 44) #[] #[.pointer (some ⟨w.heap.size, 0, none⟩), .pointer (some ⟨w.heap.size + 1, 0, none⟩), .pointer (some ⟨w.heap.size + 2, 0, none⟩), .pointer (some ⟨w.heap.size + 3, 0, none⟩)]) ∧ w' = (((w.alloc (.cells #[.pointer (some ⟨t, 0, none⟩)] 23)).alloc (.cells #[.string f] 9)).alloc (.cells #[.string to] 9)).alloc (.cells #[noteV ps] 75)) := fun ps w => walk_any t ps f to w
  refine (callsIn_wide (n := 3)).1 ?_
  refine callsIn_of_wp_marks Try.func12 rfl trivial ?_ rfl
  simp only [Try.ntmps12, List.size_toArray, List.length_cons, List.length_nil, Nat.reduceAdd, Nat.reduceSub, Array.replicate_succ, Array.replicate_zero, List.push_toArray, List.append_toArray, List.nil_append, List.cons_append]
  rw [wpIn_wide]
  go_wp2_with (go_at_call 32; go_must (refine (HW.out _ _).mono ?_; rintro e w2 ⟨rfl, rfl⟩))
  rw [← wpIn_wide (n := 3)]
  obtain ⟨x0, x1, x2, x3, x4, x5, x6, x7, x8, x9⟩ := w8_at w t f to (most : Int)
  obtain ⟨B0, hB0⟩ : ∃ B0, w.heap.size = B0 := ⟨_, rfl⟩
  obtain ⟨W8, hW8⟩ : ∃ W8, w8 w t f to (most : Int) = W8 := ⟨_, rfl⟩
  show Code.wpIn Fence.wide 3 Try.prog _ _ _ (w8 w t f to (most : Int))
  rw [hW8] at x0 x1 x2 x3 x4 x5 x6 x7 x8 x9 ⊢
  rw [hB0] at x0 x1 x2 x3 x4 x5 x6 x7 x8 x9 ⊢
  have hA0 : AccG W8 B0 (B0 + 1) (B0 + 2) (B0 + 3) (most : Int) (.slice none 0 0) (.slice none 0 0) (.slice none 0 0) [] [] :=
    ⟨x2, x3, x4, x5, ⟨rfl, Or.inl ⟨rfl, rfl⟩⟩, ⟨rfl, Or.inl ⟨rfl, rfl⟩⟩, ⟨rfl, Or.inl ⟨rfl, rfl⟩⟩, by simp, (fun i hi => by cases hi), (fun i hi => by cases hi), (fun i hi => by cases hi)⟩
  have hS0 : Still W8 (accF B0 (B0 + 1) (B0 + 2) (B0 + 3) (.slice none 0 0) (.slice none 0 0) (.slice none 0 0)) t b m c T (B0 + 4) (B0 + 5) (B0 + 6) (B0 + 7) (B0 + 3) f to := by
    refine ⟨hG.turn (Turn.ofBelow (fun _ => False) (by rw [hB0]; exact x1)) (fun _ _ h => h), fun i hi hh => ?_, x6, x7, x8, ⟨_, x9⟩, ?_⟩
    · have := hG.lt hi
      rcases hh with hh | hh | hh | hh
      · simp at hh; omega
      · cases hh
      · cases hh
      · cases hh
    · refine ⟨?_, ?_, ?_, ?_⟩ <;>
      · rintro (hh | hh | hh | hh)
        · simp at hh
        · cases hh
        · cases hh
        · cases hh
  have HB0 : Hid (w.heap.size = B0) := hB0
  clear hB0 hW8 HW
  rename_i KE hKE
  have hend : ∀ (D : Nat) (s : ScS) (W : World), W8.heap.size ≤ D → Scanned T.ls f to most s.1 s.2 → Goes (AccI B0 (B0 + 1) (B0 + 2) (B0 + 3) (most : Int) s) W8 W (accF B0 (B0 + 1) (B0 + 2) (B0 + 3) (.slice none 0 0) (.slice none 0 0) (.slice none 0 0)) → W.heap[D]? = some (.deferred (some [])) →
      KE { tmps := #[.pointer (some ⟨t, 0, none⟩), .string f, .string to, .int .i64 (most : Int), undef, undef, undef, .pointer (some ⟨B0, 0, none⟩), .pointer (some ⟨B0 + 1, 0, none⟩), .pointer (some ⟨B0 + 1 + 1, 0, none⟩), .pointer (some ⟨B0 + 1 + 1 + 1, 0, none⟩), .int .i64 0, noteV (B0 + 1 + 1 + 1), undef, undef, .int .i64 (most : Int), .bool false, .bool false, .int .i64 (most : Int), .bool false, .bool false, noteV (B0 + 1 + 1 + 1), .pointer (some ⟨t, 0, none⟩), .string f, .string to, noteV (B0 + 1 + 1 + 1), .func (.func 44) #[] #[.pointer (some ⟨B0 + 1 + 1 + 1 + 1, 0, none⟩), .pointer (some ⟨B0 + 1 + 1 + 1 + 1 + 1, 0, none⟩), .pointer (some ⟨B0 + 1 + 1 + 1 + 1 + 2, 0, none⟩), .pointer (some ⟨B0 + 1 + 1 + 1 + 1 + 3, 0, none⟩)], undef, undef, undef, undef, undef, undef, undef, undef, undef, undef, undef, undef, undef, undef, undef, undef, undef], defers := { target := .collected D, args := #[] } :: [] } W := by
    rintro D ⟨told, seen⟩ W hD hs ⟨F', ⟨vk, vv, vs, g1, gF⟩, g2, g3⟩ hdf
    refine hKE _ _ ?_
    have c8 : W.cell? ⟨B0 + 1, 0, none⟩ = some vk := by rw [cell_of g1.bk]; rfl
    have c9 : W.cell? ⟨B0 + 1 + 1, 0, none⟩ = some vv := by rw [cell_of g1.bv]; rfl
    have c10 : W.cell? ⟨B0 + 1 + 1 + 1, 0, none⟩ = some vs := by rw [cell_of g1.bs]; rfl
    have f8 : W.frozen? ⟨B0 + 1, 0, none⟩ = false := frozen_of g1.bk 0
    have f9 : W.frozen? ⟨B0 + 1 + 1, 0, none⟩ = false := frozen_of g1.bv 0
    have f10 : W.frozen? ⟨B0 + 1 + 1 + 1, 0, none⟩ = false := frozen_of g1.bs 0
    obtain ⟨A1, m1, h1⟩ := own_shape g1.rk
    obtain ⟨A2, m2, h2⟩ := own_shape g1.rv
    obtain ⟨A3, m3, h3⟩ := own_shape g1.rs
    subst h1 h2 h3
    have HP : Hid (W.cell? ⟨B0 + 1, 0, none⟩ = some (.slice A1 told.length m1) ∧ W.cell? ⟨B0 + 1 + 1, 0, none⟩ = some (.slice A2 told.length m2) ∧ W.cell? ⟨B0 + 1 + 1 + 1, 0, none⟩ = some (.slice A3 seen.length m3) ∧ W.frozen? ⟨B0 + 1, 0, none⟩ = false ∧ W.frozen? ⟨B0 + 1 + 1, 0, none⟩ = false ∧ W.frozen? ⟨B0 + 1 + 1 + 1, 0, none⟩ = false) := ⟨c8, c9, c10, f8, f9, f10⟩
    go_wp2
    go_region_held3 (fun u => u.cell? ⟨B0 + 1, 0, none⟩ = some (.slice A1 told.length m1) ∧ u.cell? ⟨B0 + 1 + 1, 0, none⟩ = some (.slice A2 told.length m2) ∧ u.cell? ⟨B0 + 1 + 1 + 1, 0, none⟩ = some (.slice A3 seen.length m3) ∧ u.frozen? ⟨B0 + 1, 0, none⟩ = false ∧ u.frozen? ⟨B0 + 1 + 1, 0, none⟩ = false ∧ u.frozen? ⟨B0 + 1 + 1 + 1, 0, none⟩ = false) ((first | with_reducible exact k60 HP.out | with_reducible exact k61 HP.out | with_reducible exact k62 HP.out | with_reducible exact k63 HP.out | with_reducible exact HP.out)) (fail)
    go_wp2
    have hsm := set3_same g1.bk g1.bv g1.bs
    refine ⟨by simp, .inl ⟨_, _, rfl, run_takeDeferred ((hsm D).trans hdf), ?_⟩⟩
    have hB := HB0.out
    have tB : Turn (fun i => B0 ≤ i) w ((((W.setCell ⟨B0 + 1, 0, none⟩ (.slice A1 told.length m1)).setCell ⟨B0 + 1 + 1, 0, none⟩ (.slice A2 told.length m2)).setCell ⟨B0 + 1 + 1 + 1, 0, none⟩ (.slice A3 seen.length m3)).drew.putObj D (.deferred none)) := by
      refine Turn.trans (Turn.drew (Turn.trans (Turn.trans (Turn.trans ?_ (Turn.setCell _ _ _ (by show B0 ≤ B0 + 1; omega))) (Turn.setCell _ _ _ (by show B0 ≤ B0 + 1 + 1; omega))) (Turn.setCell _ _ _ (by show B0 ≤ B0 + 1 + 1 + 1; omega)))) ((turn_putObj _ D _).mono fun i hi => by omega)
      refine (Turn.ofBelow (fun i => B0 ≤ i) (by rw [hB]; exact x1)).trans (g2.mono fun i hi => ?_)
      rcases hi with hi | hi | hi | hi
      · simp at hi; omega
      · cases hi
      · cases hi
      · cases hi
    obtain ⟨Wf, hWf⟩ : ∃ Wf, (((W.setCell ⟨B0 + 1, 0, none⟩ (.slice A1 told.length m1)).setCell ⟨B0 + 1 + 1, 0, none⟩ (.slice A2 told.length m2)).setCell ⟨B0 + 1 + 1 + 1, 0, none⟩ (.slice A3 seen.length m3)).drew.putObj D (.deferred none) = Wf := ⟨_, rfl⟩
    have hk : ∀ i, i ≠ D → Wf.heap[i]? = W.heap[i]? := fun i hi => by
      rw [← hWf, World.putObj_heap_other hi]
      exact hsm i
    rw [hWf] at tB ⊢
    have z8 : Wf.cell? ⟨B0 + 1, 0, none⟩ = some (.slice A1 told.length m1) := by rw [cell_of ((hk _ (by omega)).trans g1.bk)]; rfl
    have z9 : Wf.cell? ⟨B0 + 1 + 1, 0, none⟩ = some (.slice A2 told.length m2) := by rw [cell_of ((hk _ (by omega)).trans g1.bv)]; rfl
    have z10 : Wf.cell? ⟨B0 + 1 + 1 + 1, 0, none⟩ = some (.slice A3 seen.length m3) := by rw [cell_of ((hk _ (by omega)).trans g1.bs)]; rfl
    have new : ∀ i, F' i → B0 ≤ i := fun i hi => by
      rcases g3 i hi with (e | e | e | e) | e
      · simp at e; omega
      · cases e
      · cases e
      · cases e
      · omega
    have nd : ∀ {e : TypeId} {size n : Nat} {v : Value} {xs : List Value}, W.ownsRow 0 e size v n xs → ∀ i, v.ownBlock = some i → i ≠ D := fun hr i hi e => by
      obtain ⟨cur, q1, _⟩ := ownsRow_own hr hi
      rw [e, hdf] at q1
      cases q1
    refine ⟨.tuple #[.slice A1 told.length m1, .slice A2 told.length m2, .slice A3 seen.length m3, .int .i64 0], ?_, told, seen, _, _, _, rfl, hs, ?_, ?_, ?_, ?_, ?_, ?_⟩
    · simp [results, Try.results12, go_sem, z8, z9, z10]
    · rw [hB]; exact ownsRow_from (ownsRow_block g1.rk (fun i hi => hk i (nd g1.rk i hi))) (fun i hi => new i ((gF i).2 (Or.inr (Or.inl hi))))
    · rw [hB]; exact ownsRow_from (ownsRow_block g1.rv (fun i hi => hk i (nd g1.rv i hi))) (fun i hi => new i ((gF i).2 (Or.inr (Or.inr (Or.inl hi)))))
    · rw [hB]; exact ownsRow_from (ownsRow_block g1.rs (fun i hi => hk i (nd g1.rs i hi))) (fun i hi => new i ((gF i).2 (Or.inr (Or.inr (Or.inr hi)))))
    · exact fun i hi => (g1.ok i hi).2
    · exact fun i hi => (g1.ov i hi).2.2
    · rw [hB]; exact tB.toBelow (by omega)
  clear hKE
  refine range_foot (σ := ScS) (α := Kv) (gf := 44) (lb := #[.pointer (some ⟨B0 + 1 + 1 + 1 + 1, 0, none⟩), .pointer (some ⟨B0 + 1 + 1 + 1 + 1 + 1, 0, none⟩), .pointer (some ⟨B0 + 1 + 1 + 1 + 1 + 2, 0, none⟩), .pointer (some ⟨B0 + 1 + 1 + 1 + 1 + 3, 0, none⟩)]) rfl (enters_of Try.func44 (by kernel_rfl) rfl) encK (fun _ => rfl)
    (scI B0 (B0 + 1) (B0 + 2) (B0 + 3) most) (AccI B0 (B0 + 1) (B0 + 2) (B0 + 3) (most : Int)) (scI_res _ _ _ _ _) (accI_res _ _ _ _ _) (scOn most) (scOff most) (fun s => Scanned T.ls f to most s.1 s.2) (fun s => Scanned T.ls f to most s.1 s.2) 0
    (fun x => { tmps := #[.pointer (some ⟨t, 0, none⟩), .string f, .string to, .int .i64 (most : Int), undef, undef, undef, .pointer (some ⟨B0, 0, none⟩), .pointer (some ⟨B0 + 1, 0, none⟩), .pointer (some ⟨B0 + 1 + 1, 0, none⟩), .pointer (some ⟨B0 + 1 + 1 + 1, 0, none⟩), .int .i64 0, noteV (B0 + 1 + 1 + 1), .string x.1, .int .i64 x.2, .int .i64 (most : Int), .bool false, .bool false, .int .i64 (most : Int), .bool false, .bool false, noteV (B0 + 1 + 1 + 1), .pointer (some ⟨t, 0, none⟩), .string f, .string to, noteV (B0 + 1 + 1 + 1), .func (.func 44) #[] #[.pointer (some ⟨B0 + 1 + 1 + 1 + 1, 0, none⟩), .pointer (some ⟨B0 + 1 + 1 + 1 + 1 + 1, 0, none⟩), .pointer (some ⟨B0 + 1 + 1 + 1 + 1 + 2, 0, none⟩), .pointer (some ⟨B0 + 1 + 1 + 1 + 1 + 3, 0, none⟩)], .string x.1, .int .i64 x.2, undef, undef, undef, undef, undef, undef, undef, undef, undef, undef, undef, undef, undef, undef, undef], defers := [] })
    ?assign ?body ([], []) (accF B0 (B0 + 1) (B0 + 2) (B0 + 3) (.slice none 0 0) (.slice none 0 0) (.slice none 0 0)) ?start ?iter ?done ?stop
  case assign =>
    intro l x W K hK
    dsimp only [encK]
    gi_wp2
    exact hK
  case start => exact ⟨by show 0 < most; omega, _, _, _, hA0, fun _ => Iff.rfl⟩
  case iter =>
    intro l J Jx W F rJ rX hI hY hJ0 hF hb
    refine (callsIn_wide).2 (iter_any rJ hI hY hJ0 (hS0.goes (Turn.ofBelow _ hb) ?_) hO ⟨h1, h2⟩)
    exact hF
  case body =>
    rintro l ⟨told, seen⟩ ⟨key, vx⟩ W A0 hl ⟨hlen, vk, vv, vs, hA, hAF⟩
    have hAd : AccG W.drew B0 (B0 + 1) (B0 + 2) (B0 + 3) (most : Int) vk vv vs told seen := hA.kept (fun _ _ => rfl)
    gi_wp2
    refine region7 (W0 := W.drew) (pm := B0) (key := key) (x := vx) ⟨⟨_, _, rfl⟩, ⟨_, _, rfl⟩, ⟨_, _, rfl⟩, ⟨_, _, rfl⟩, ⟨_, _, rfl⟩, ⟨_, _, rfl⟩, ⟨_, _, rfl⟩, ⟨_, _, rfl⟩, ⟨_, _, rfl⟩, ⟨_, _, rfl⟩, by kernel_rfl, by kernel_rfl, by kernel_rfl, by kernel_rfl, by kernel_rfl, by kernel_rfl, by kernel_rfl, by kernel_rfl, by kernel_rfl, by kernel_rfl, by kernel_rfl, by kernel_rfl, by kernel_rfl, by kernel_rfl, by kernel_rfl, by kernel_rfl, by kernel_rfl, by kernel_rfl, by kernel_rfl, by kernel_rfl, by kernel_rfl, by kernel_rfl, by kernel_rfl, by kernel_rfl, by kernel_rfl, by kernel_rfl, by kernel_rfl, by kernel_rfl, by kernel_rfl, by kernel_rfl, by kernel_rfl, by kernel_rfl, by kernel_rfl, by kernel_rfl, by kernel_rfl, by kernel_rfl, by kernel_rfl, by kernel_rfl, by kernel_rfl, by kernel_rfl, by kernel_rfl, by kernel_rfl, by kernel_rfl, by kernel_rfl, by kernel_rfl⟩ (hAd.beg (by omega)) rfl ⟨rfl, rfl, rfl, rfl, rfl, rfl, rfl, ⟨(fun e => by cases e), (fun e => by cases e), (fun e => by cases e), (fun e => by cases e), fun _ => (hAd.beg (by omega)).rk⟩, ⟨(fun e => by cases e), (fun e => by cases e), (fun e => by cases e), (fun e => by cases e), fun _ => (hAd.beg (by omega)).rv⟩, Turn.refl _ _⟩ rfl (fun a' w' hfin => ?_)
    rename_i KK hKK
    refine hKK _ _ ?_
    have hG7 := hAd.more hfin
    obtain ⟨w1, A, m, A', m', hS, e32, e36, hw7⟩ := hfin
    have t7 : a'.tmps[7]? = some (.pointer (some ⟨B0, 0, none⟩)) := hS.e7
    have t8 : a'.tmps[8]? = some (.pointer (some ⟨B0 + 1, 0, none⟩)) := hS.e8
    have hsz : a'.tmps.size = 44 := hS.sz
    have hbx := hS.box (hAd.beg (by omega))
    have c7 : w'.cell? ⟨B0, 0, none⟩ = some (.int .i64 (most : Int)) := by
      obtain ⟨F', ⟨_, _, _, g1, _⟩, _, _⟩ := hG7
      rw [cell_of g1.bm]; rfl
    have c8 : w'.cell? ⟨B0 + 1, 0, none⟩ = some (.slice A ((keysOf told).length + 1) m) := by
      have e1 : w'.heap[B0 + 1]? = some (boxO (.slice A ((keysOf told).length + 1) m) 26) := by
        rw [hw7, Below.heap_setCell _ ⟨B0 + 2, 0, none⟩ _ (B0 + 1) (by show B0 + 1 ≠ B0 + 2; omega), heap_setCell_same hbx.1]; rfl
      rw [cell_of e1]; rfl
    have hgo : Goes (AccI B0 (B0 + 1) (B0 + 2) (B0 + 3) (most : Int) (told ++ [(key, vx)], seen)) W w' A0 := by
      obtain ⟨F', g1, g2, g3⟩ := hG7
      refine ⟨F', g1, ?_, fun i hi => ?_⟩
      · exact ⟨g2.os, g2.tape, g2.output, g2.size, fun i hi hn => g2.block i hi (fun e => hn ((hAF i).2 e))⟩
      · rcases g3 i hi with e | e
        · exact Or.inl ((hAF i).2 e)
        · exact Or.inr e
    rw [keysOf_length] at c8
    clear hw7 hG7 hbx hKK hS e32 e36
    obtain ⟨tm, df⟩ := a'
    dsimp only at t7 t8 hsz
    obtain ⟨v0, v1, v2, v3, v4, v5, v6, v7, v8, v9, v10, v11, v12, v13, v14, v15, v16, v17, v18, v19, v20, v21, v22, v23, v24, v25, v26, v27, v28, v29, v30, v31, v32, v33, v34, v35, v36, v37, v38, v39, v40, v41, v42, v43, rfl⟩ := arr44 tm hsz
    obtain rfl : v7 = _ := Option.some.inj t7
    obtain rfl : v8 = _ := Option.some.inj t8
    clear t7 t8 hsz
    gi_wp2
    · rename_i hq
      refine ⟨rfl, (told ++ [(key, vx)], seen), ⟨?_, rfl⟩, hgo⟩
      show told.length + 1 = most
      simp at hq
      omega
    · rename_i hq
      obtain ⟨F', g1, g2, g3⟩ := hgo
      have hlt : told.length + 1 < most := by
        simp at hq
        omega
      exact ⟨(told ++ [(key, vx)], seen), ⟨hlt, rfl⟩, F', ⟨by show (told ++ [(key, vx)]).length < most; rw [List.length_append]; exact hlt, g1⟩, g2, g3⟩
  case done => exact fun D s W hD hs hgo hdf => hend D s W hD hs (let ⟨F', g1, g2, g3⟩ := hgo; ⟨F', g1.2, g2, g3⟩) hdf
  case stop =>
    intro D s W hD hs hgo hdf
    rw [wpIn_wide]
    go_wp2
    exact hend D s W hD hs hgo hdf
end

end Go.Proofs.Ytoknebbkpkcomaa
