import Derived.Test.YtfddmibaojfalaaGreatXCmp
import Derived.Test.YtfddmibaojfalaaGreatXGive
import Derived.Test.YtfddmibaojfalaaGreatZCreate
/- The order of two values: the program's compareValues, Compare and compare. -/
namespace Go.Proofs.YtfddmibaojfalaaGreat
open Go.RowKit

abbrev vobj (k n : Int) (s : ByteArray) : Obj := .cells #[.int .i64 k, .int .i64 n, .complex .f64 0 0, .string s] 36
/-- the cells of a value's box -/
abbrev BoxV (u : World) (x : Nat) (k n : Int) (s : ByteArray) : Prop := u.cell? ⟨x, 0, none⟩ = some (.int .i64 k) ∧ u.cell? ⟨x, 1, none⟩ = some (.int .i64 n) ∧ u.cell? ⟨x, 2, none⟩ = some (.complex .f64 0 0) ∧ u.cell? ⟨x, 3, none⟩ = some (.string s)
theorem boxV_of {u : World} {x : Nat} {k n : Int} {s : ByteArray} (h : u.heap[x]? = some (vobj k n s)) : BoxV u x k n s :=
  ⟨by rw [cell_of h]; rfl, by rw [cell_of h]; rfl, by rw [cell_of h]; rfl, by rw [cell_of h]; rfl⟩
set_option maxRecDepth 100000 in
set_option linter.unusedSimpArgs false in
set_option maxHeartbeats 2000000 in
theorem compareValues_any (k n k' n' : Int) (s s' : ByteArray) (w : World) : Calls Tryz.prog 97 #[vagg k n s, vagg k' n' s'] w fun e w' => e = .returned (.int .i64 (cmpV ⟨k, n, s⟩ ⟨k', n', s'⟩)) ∧ Below w.heap.size w w' := by
  have HE : Hid (cmpV ⟨k, n, s⟩ ⟨k', n', s'⟩ = orI (cmpI k k') (orI (cmpI n n') (cmpS s s'))) := rfl
  obtain ⟨xa, hxa⟩ : ∃ xa, w.heap.size = xa := ⟨_, rfl⟩
  obtain ⟨w2, hw2⟩ : ∃ w2, (w.alloc (vobj k n s)).alloc (vobj k' n' s') = w2 := ⟨_, rfl⟩
  have hb1 : Below w.heap.size w (w.alloc (vobj k n s)) := (Below.refl _ _).alloc (Nat.le_refl _) _
  have HB2 : Hid (Below w.heap.size w w2) := by show Below _ _ _; rw [← hw2]; exact bl_alloc hb1 _
  have i1 : w2.heap[xa]? = some (vobj k n s) := by rw [← hw2, ← hxa]; exact (Below.heap_alloc _ _ _ (by simp)).trans (heap_new w _)
  have i2 : w2.heap[xa + 1]? = some (vobj k' n' s') := by rw [← hw2, ← hxa]; have := heap_new (w.alloc (vobj k n s)) (vobj k' n' s'); rwa [World.size_alloc] at this
  obtain ⟨a0, a1, a2, a3⟩ := boxV_of i1
  obtain ⟨b0, b1, b2, b3⟩ := boxV_of i2
  obtain ⟨x, hx⟩ : ∃ x, cmpI k k' = x := ⟨_, rfl⟩
  obtain ⟨y, hy⟩ : ∃ y, cmpI n n' = y := ⟨_, rfl⟩
  obtain ⟨z, hz⟩ : ∃ z, cmpS s s' = z := ⟨_, rfl⟩
  have HCI : Hid (∀ u, Calls Tryz.prog 99 #[.int .i64 k, .int .i64 k'] u fun e w' => e = .returned (.int .i64 x) ∧ w' = u) := fun u => hx ▸ cmpI_any k k' u
  have HCL : Hid (∀ u, Calls Tryz.prog 100 #[.int .i64 n, .int .i64 n'] u fun e w' => e = .returned (.int .i64 y) ∧ w' = u) := fun u => hy ▸ cmpL_any n n' u
  have HCS : Hid (∀ u, Calls Tryz.prog 103 #[.string s, .string s'] u fun e w' => e = .returned (.int .i64 z) ∧ w' = u) := fun u => hz ▸ compareS_any s s' u
  obtain ⟨r, hr⟩ : ∃ r, orI x (orI y z) = r := ⟨_, rfl⟩
  have HOr : Hid (Calls Tryz.prog 98 #[.slice (some ⟨w2.heap.size, 0, none⟩) 5 5] (w2.alloc (.cells #[.int .i64 x, .int .i64 y, .int .i64 0, .int .i64 0, .int .i64 z] 3)).drew fun e w' => e = .returned (.int .i64 r) ∧ Hid (Below w.heap.size w w') ∧ w'.cell? ⟨xa, 0, none⟩ = some (.int .i64 k) ∧ w'.cell? ⟨xa, 1, none⟩ = some (.int .i64 n) ∧ w'.cell? ⟨xa, 2, none⟩ = some (.complex .f64 0 0) ∧ w'.cell? ⟨xa, 3, none⟩ = some (.string s) ∧ w'.cell? ⟨xa + 1, 0, none⟩ = some (.int .i64 k') ∧ w'.cell? ⟨xa + 1, 1, none⟩ = some (.int .i64 n') ∧ w'.cell? ⟨xa + 1, 2, none⟩ = some (.complex .f64 0 0) ∧ w'.cell? ⟨xa + 1, 3, none⟩ = some (.string s')) := by
    have e := heap_new w2 (.cells #[.int .i64 x, .int .i64 y, .int .i64 0, .int .i64 0, .int .i64 z] 3)
    refine (or_any _ x y z _ (cell_drew (by rw [cell_of e]; rfl)) (cell_drew (by rw [cell_of e]; rfl)) (cell_drew (by rw [cell_of e]; rfl)) (cell_drew (by rw [cell_of e]; rfl)) (cell_drew (by rw [cell_of e]; rfl))).mono fun e w' ⟨e1, e2⟩ => ⟨by rw [← hr]; exact e1, ?_⟩
    subst e2
    exact ⟨bl_drew (bl_alloc HB2.out _), cell_drew (cell_new a0), cell_drew (cell_new a1), cell_drew (cell_new a2), cell_drew (cell_new a3), cell_drew (cell_new b0), cell_drew (cell_new b1), cell_drew (cell_new b2), cell_drew (cell_new b3)⟩
  rw [hx, hy, hz, hr] at HE
  clear hb1 hx hy hz hr i1 i2
  go_enter Tryz.func97, Tryz.ntmps97
  go_wp2_with fail
  refine wp_region_held_drew (S := fun u => u.cell? ⟨xa, 0, none⟩ = some (.int .i64 k) ∧ u.cell? ⟨xa, 1, none⟩ = some (.int .i64 n) ∧ u.cell? ⟨xa, 2, none⟩ = some (.complex .f64 0 0) ∧ u.cell? ⟨xa, 3, none⟩ = some (.string s) ∧ u.cell? ⟨xa + 1, 0, none⟩ = some (.int .i64 k') ∧ u.cell? ⟨xa + 1, 1, none⟩ = some (.int .i64 n') ∧ u.cell? ⟨xa + 1, 2, none⟩ = some (.complex .f64 0 0) ∧ u.cell? ⟨xa + 1, 3, none⟩ = some (.string s')) (by kernel_rfl) ⟨a0, a1, a2, a3, b0, b1, b2, b3⟩ (fun hHeld => ?_)
  refine take_dst (i := 0) (dst := 5) (v := ?v0) rfl rfl (by kernel_rfl) (by kernel_rfl) (by kernel_rfl) (fun _ _ _ h => h) (Or.inl ⟨by rfl, ?hy0⟩) (by assumption) ?rest0
  case hy0 => intro w hSw; (try dsimp only at hSw); go_simp; try with_reducible rfl
  try simp only [List.setIfInBounds_toArray, List.set_cons_zero, List.set_cons_succ]
  refine take_dst (i := 1) (dst := 6) (v := ?v1) rfl rfl (by kernel_rfl) (by kernel_rfl) (by kernel_rfl) (fun _ _ _ h => h) (Or.inl ⟨by rfl, ?hy1⟩) (by assumption) ?rest1
  case hy1 => intro w hSw; (try dsimp only at hSw); go_simp; try with_reducible rfl
  try simp only [List.setIfInBounds_toArray, List.set_cons_zero, List.set_cons_succ]
  refine take_dst (i := 2) (dst := 7) (v := ?v2) rfl rfl (by kernel_rfl) (by kernel_rfl) (by kernel_rfl) (fun _ _ _ h => h) (Or.inl ⟨by rfl, ?hy2⟩) (by assumption) ?rest2
  case hy2 => intro w hSw; (try dsimp only at hSw); go_simp; try with_reducible rfl
  try simp only [List.setIfInBounds_toArray, List.set_cons_zero, List.set_cons_succ]
  refine take_dst (i := 3) (dst := 8) (v := ?v3) rfl rfl (by kernel_rfl) (by kernel_rfl) (by kernel_rfl) (fun _ _ _ h => h) (Or.inl ⟨by rfl, ?hy3⟩) (by assumption) ?rest3
  case hy3 => intro w hSw; (try dsimp only at hSw); go_simp; try with_reducible rfl
  try simp only [List.setIfInBounds_toArray, List.set_cons_zero, List.set_cons_succ]
  refine call_take (i := 4) (dst := 9) (v := .int .i64 x) (f := 99) (args := #[.int .i64 k, .int .i64 k']) rfl rfl (by kernel_rfl) (by kernel_rfl) (by kernel_rfl) (fun _ _ _ h => h) (by rfl) (fun u => ?hr4) (fun u _ => HCI.out u) (by assumption) ?rest4
  case hr4 => go_simp
  try simp only [List.setIfInBounds_toArray, List.set_cons_zero, List.set_cons_succ]
  refine take_dst (i := 5) (dst := 10) (v := ?v5) rfl rfl (by kernel_rfl) (by kernel_rfl) (by kernel_rfl) (fun _ _ _ h => h) (Or.inl ⟨by rfl, ?hy5⟩) (by assumption) ?rest5
  case hy5 => intro w hSw; (try dsimp only at hSw); go_simp; try with_reducible rfl
  try simp only [List.setIfInBounds_toArray, List.set_cons_zero, List.set_cons_succ]
  refine take_dst (i := 6) (dst := 11) (v := ?v6) rfl rfl (by kernel_rfl) (by kernel_rfl) (by kernel_rfl) (fun _ _ _ h => h) (Or.inl ⟨by rfl, ?hy6⟩) (by assumption) ?rest6
  case hy6 => intro w hSw; (try dsimp only at hSw); go_simp; try with_reducible rfl
  try simp only [List.setIfInBounds_toArray, List.set_cons_zero, List.set_cons_succ]
  refine take_dst (i := 7) (dst := 12) (v := ?v7) rfl rfl (by kernel_rfl) (by kernel_rfl) (by kernel_rfl) (fun _ _ _ h => h) (Or.inl ⟨by rfl, ?hy7⟩) (by assumption) ?rest7
  case hy7 => intro w hSw; (try dsimp only at hSw); go_simp; try with_reducible rfl
  try simp only [List.setIfInBounds_toArray, List.set_cons_zero, List.set_cons_succ]
  refine take_dst (i := 8) (dst := 13) (v := ?v8) rfl rfl (by kernel_rfl) (by kernel_rfl) (by kernel_rfl) (fun _ _ _ h => h) (Or.inl ⟨by rfl, ?hy8⟩) (by assumption) ?rest8
  case hy8 => intro w hSw; (try dsimp only at hSw); go_simp; try with_reducible rfl
  try simp only [List.setIfInBounds_toArray, List.set_cons_zero, List.set_cons_succ]
  refine call_take (i := 9) (dst := 14) (v := .int .i64 y) (f := 100) (args := #[.int .i64 n, .int .i64 n']) rfl rfl (by kernel_rfl) (by kernel_rfl) (by kernel_rfl) (fun _ _ _ h => h) (by rfl) (fun u => ?hr9) (fun u _ => HCL.out u) (by assumption) ?rest9
  case hr9 => go_simp
  try simp only [List.setIfInBounds_toArray, List.set_cons_zero, List.set_cons_succ]
  refine take_dst (i := 10) (dst := 15) (v := ?v10) rfl rfl (by kernel_rfl) (by kernel_rfl) (by kernel_rfl) (fun _ _ _ h => h) (Or.inl ⟨by rfl, ?hy10⟩) (by assumption) ?rest10
  case hy10 => intro w hSw; (try dsimp only at hSw); go_simp; try with_reducible rfl
  try simp only [List.setIfInBounds_toArray, List.set_cons_zero, List.set_cons_succ]
  refine take_dst (i := 11) (dst := 16) (v := ?v11) rfl rfl (by kernel_rfl) (by kernel_rfl) (by kernel_rfl) (fun _ _ _ h => h) (Or.inl ⟨by rfl, ?hy11⟩) (by assumption) ?rest11
  case hy11 => intro w hSw; (try dsimp only at hSw); go_simp; try with_reducible rfl
  try simp only [List.setIfInBounds_toArray, List.set_cons_zero, List.set_cons_succ]
  refine take_dst (i := 12) (dst := 17) (v := ?v12) rfl rfl (by kernel_rfl) (by kernel_rfl) (by kernel_rfl) (fun _ _ _ h => h) (Or.inl ⟨by rfl, ?hy12⟩) (by assumption) ?rest12
  case hy12 => intro w hSw; (try dsimp only at hSw); go_simp; try with_reducible rfl
  try simp only [List.setIfInBounds_toArray, List.set_cons_zero, List.set_cons_succ]
  refine call_take (i := 13) (dst := 18) (v := .int .u64 9223372036854775808) (f := 102) (args := #[.float .f64 0]) rfl rfl (by kernel_rfl) (by kernel_rfl) (by kernel_rfl) (fun _ _ _ h => h) (by rfl) (fun u => ?hr13) (fun u _ => rank_zero u) (by assumption) ?rest13
  case hr13 => go_simp
  try simp only [List.setIfInBounds_toArray, List.set_cons_zero, List.set_cons_succ]
  refine take_dst (i := 14) (dst := 19) (v := ?v14) rfl rfl (by kernel_rfl) (by kernel_rfl) (by kernel_rfl) (fun _ _ _ h => h) (Or.inl ⟨by rfl, ?hy14⟩) (by assumption) ?rest14
  case hy14 => intro w hSw; (try dsimp only at hSw); go_simp; try with_reducible rfl
  try simp only [List.setIfInBounds_toArray, List.set_cons_zero, List.set_cons_succ]
  refine take_dst (i := 15) (dst := 20) (v := ?v15) rfl rfl (by kernel_rfl) (by kernel_rfl) (by kernel_rfl) (fun _ _ _ h => h) (Or.inl ⟨by rfl, ?hy15⟩) (by assumption) ?rest15
  case hy15 => intro w hSw; (try dsimp only at hSw); go_simp; try with_reducible rfl
  try simp only [List.setIfInBounds_toArray, List.set_cons_zero, List.set_cons_succ]
  refine take_dst (i := 16) (dst := 21) (v := ?v16) rfl rfl (by kernel_rfl) (by kernel_rfl) (by kernel_rfl) (fun _ _ _ h => h) (Or.inl ⟨by rfl, ?hy16⟩) (by assumption) ?rest16
  case hy16 => intro w hSw; (try dsimp only at hSw); go_simp; try with_reducible rfl
  try simp only [List.setIfInBounds_toArray, List.set_cons_zero, List.set_cons_succ]
  refine call_take (i := 17) (dst := 22) (v := .int .u64 9223372036854775808) (f := 102) (args := #[.float .f64 0]) rfl rfl (by kernel_rfl) (by kernel_rfl) (by kernel_rfl) (fun _ _ _ h => h) (by rfl) (fun u => ?hr17) (fun u _ => rank_zero u) (by assumption) ?rest17
  case hr17 => go_simp
  try simp only [List.setIfInBounds_toArray, List.set_cons_zero, List.set_cons_succ]
  refine call_take (i := 18) (dst := 23) (v := .int .i64 0) (f := 101) (args := #[.int .u64 9223372036854775808, .int .u64 9223372036854775808]) rfl rfl (by kernel_rfl) (by kernel_rfl) (by kernel_rfl) (fun _ _ _ h => h) (by rfl) (fun u => ?hr18) (fun u _ => cmpU_self _ u) (by assumption) ?rest18
  case hr18 => go_simp
  try simp only [List.setIfInBounds_toArray, List.set_cons_zero, List.set_cons_succ]
  refine take_dst (i := 19) (dst := 24) (v := ?v19) rfl rfl (by kernel_rfl) (by kernel_rfl) (by kernel_rfl) (fun _ _ _ h => h) (Or.inl ⟨by rfl, ?hy19⟩) (by assumption) ?rest19
  case hy19 => intro w hSw; (try dsimp only at hSw); go_simp; try with_reducible rfl
  try simp only [List.setIfInBounds_toArray, List.set_cons_zero, List.set_cons_succ]
  refine take_dst (i := 20) (dst := 25) (v := ?v20) rfl rfl (by kernel_rfl) (by kernel_rfl) (by kernel_rfl) (fun _ _ _ h => h) (Or.inl ⟨by rfl, ?hy20⟩) (by assumption) ?rest20
  case hy20 => intro w hSw; (try dsimp only at hSw); go_simp; try with_reducible rfl
  try simp only [List.setIfInBounds_toArray, List.set_cons_zero, List.set_cons_succ]
  refine take_dst (i := 21) (dst := 26) (v := ?v21) rfl rfl (by kernel_rfl) (by kernel_rfl) (by kernel_rfl) (fun _ _ _ h => h) (Or.inl ⟨by rfl, ?hy21⟩) (by assumption) ?rest21
  case hy21 => intro w hSw; (try dsimp only at hSw); go_simp; try with_reducible rfl
  try simp only [List.setIfInBounds_toArray, List.set_cons_zero, List.set_cons_succ]
  refine call_take (i := 22) (dst := 27) (v := .int .u64 9223372036854775808) (f := 102) (args := #[.float .f64 0]) rfl rfl (by kernel_rfl) (by kernel_rfl) (by kernel_rfl) (fun _ _ _ h => h) (by rfl) (fun u => ?hr22) (fun u _ => rank_zero u) (by assumption) ?rest22
  case hr22 => go_simp
  try simp only [List.setIfInBounds_toArray, List.set_cons_zero, List.set_cons_succ]
  refine take_dst (i := 23) (dst := 28) (v := ?v23) rfl rfl (by kernel_rfl) (by kernel_rfl) (by kernel_rfl) (fun _ _ _ h => h) (Or.inl ⟨by rfl, ?hy23⟩) (by assumption) ?rest23
  case hy23 => intro w hSw; (try dsimp only at hSw); go_simp; try with_reducible rfl
  try simp only [List.setIfInBounds_toArray, List.set_cons_zero, List.set_cons_succ]
  refine take_dst (i := 24) (dst := 29) (v := ?v24) rfl rfl (by kernel_rfl) (by kernel_rfl) (by kernel_rfl) (fun _ _ _ h => h) (Or.inl ⟨by rfl, ?hy24⟩) (by assumption) ?rest24
  case hy24 => intro w hSw; (try dsimp only at hSw); go_simp; try with_reducible rfl
  try simp only [List.setIfInBounds_toArray, List.set_cons_zero, List.set_cons_succ]
  refine take_dst (i := 25) (dst := 30) (v := ?v25) rfl rfl (by kernel_rfl) (by kernel_rfl) (by kernel_rfl) (fun _ _ _ h => h) (Or.inl ⟨by rfl, ?hy25⟩) (by assumption) ?rest25
  case hy25 => intro w hSw; (try dsimp only at hSw); go_simp; try with_reducible rfl
  try simp only [List.setIfInBounds_toArray, List.set_cons_zero, List.set_cons_succ]
  refine call_take (i := 26) (dst := 31) (v := .int .u64 9223372036854775808) (f := 102) (args := #[.float .f64 0]) rfl rfl (by kernel_rfl) (by kernel_rfl) (by kernel_rfl) (fun _ _ _ h => h) (by rfl) (fun u => ?hr26) (fun u _ => rank_zero u) (by assumption) ?rest26
  case hr26 => go_simp
  try simp only [List.setIfInBounds_toArray, List.set_cons_zero, List.set_cons_succ]
  refine call_take (i := 27) (dst := 32) (v := .int .i64 0) (f := 101) (args := #[.int .u64 9223372036854775808, .int .u64 9223372036854775808]) rfl rfl (by kernel_rfl) (by kernel_rfl) (by kernel_rfl) (fun _ _ _ h => h) (by rfl) (fun u => ?hr27) (fun u _ => cmpU_self _ u) (by assumption) ?rest27
  case hr27 => go_simp
  try simp only [List.setIfInBounds_toArray, List.set_cons_zero, List.set_cons_succ]
  refine take_dst (i := 28) (dst := 33) (v := ?v28) rfl rfl (by kernel_rfl) (by kernel_rfl) (by kernel_rfl) (fun _ _ _ h => h) (Or.inl ⟨by rfl, ?hy28⟩) (by assumption) ?rest28
  case hy28 => intro w hSw; (try dsimp only at hSw); go_simp; try with_reducible rfl
  try simp only [List.setIfInBounds_toArray, List.set_cons_zero, List.set_cons_succ]
  refine take_dst (i := 29) (dst := 34) (v := ?v29) rfl rfl (by kernel_rfl) (by kernel_rfl) (by kernel_rfl) (fun _ _ _ h => h) (Or.inl ⟨by rfl, ?hy29⟩) (by assumption) ?rest29
  case hy29 => intro w hSw; (try dsimp only at hSw); go_simp; try with_reducible rfl
  try simp only [List.setIfInBounds_toArray, List.set_cons_zero, List.set_cons_succ]
  refine take_dst (i := 30) (dst := 35) (v := ?v30) rfl rfl (by kernel_rfl) (by kernel_rfl) (by kernel_rfl) (fun _ _ _ h => h) (Or.inl ⟨by rfl, ?hy30⟩) (by assumption) ?rest30
  case hy30 => intro w hSw; (try dsimp only at hSw); go_simp; try with_reducible rfl
  try simp only [List.setIfInBounds_toArray, List.set_cons_zero, List.set_cons_succ]
  refine take_dst (i := 31) (dst := 36) (v := ?v31) rfl rfl (by kernel_rfl) (by kernel_rfl) (by kernel_rfl) (fun _ _ _ h => h) (Or.inl ⟨by rfl, ?hy31⟩) (by assumption) ?rest31
  case hy31 => intro w hSw; (try dsimp only at hSw); go_simp; try with_reducible rfl
  try simp only [List.setIfInBounds_toArray, List.set_cons_zero, List.set_cons_succ]
  refine call_take (i := 32) (dst := 37) (v := .int .i64 z) (f := 103) (args := #[.string s, .string s']) rfl rfl (by kernel_rfl) (by kernel_rfl) (by kernel_rfl) (fun _ _ _ h => h) (by rfl) (fun u => ?hr32) (fun u _ => HCS.out u) (by assumption) ?rest32
  case hr32 => go_simp
  try simp only [List.setIfInBounds_toArray, List.set_cons_zero, List.set_cons_succ]
  refine wpAnyH_ready (rs := [33]) (by kernel_rfl) (by simp) ?_
  refine AllReadyH.cons rfl (fun K9 hK9 => ?_) AllReadyH.nil
  rw [if_pos (by rfl)]
  go_simp
  refine hK9.out _ _ ⟨cell_new (cell_drew a0), cell_new (cell_drew a1), cell_new (cell_drew a2), cell_new (cell_drew a3), cell_new (cell_drew b0), cell_new (cell_drew b1), cell_new (cell_drew b2), cell_new (cell_drew b3)⟩ (fun hS9 => ?_)
  clear hK9
  refine wpAnyH_ready (rs := [34]) (by kernel_rfl) (by simp) ?_
  refine AllReadyH.cons rfl (fun K9 hK9 => ?_) AllReadyH.nil
  rw [if_pos (by rfl)]
  go_simp
  refine HOr.out.mono ?_
  rintro e w9 ⟨rfl, H9, c0, c1, c2, c3, d0, d1, d2, d3⟩
  dsimp only
  refine hK9.out _ _ ⟨c0, c1, c2, c3, d0, d1, d2, d3⟩ (fun hS9 => ?_)
  clear hK9
  refine take_dst (i := 35) (dst := 4) (v := ?v35) rfl rfl (by kernel_rfl) (by kernel_rfl) (by kernel_rfl) (fun _ _ _ h => h) (Or.inl ⟨by rfl, ?hy35⟩) (by assumption) ?rest35
  case hy35 => intro w hSw; (try dsimp only at hSw); go_simp; try with_reducible rfl
  try simp only [List.setIfInBounds_toArray, List.set_cons_zero, List.set_cons_succ]
  refine wpAnyH_done (by kernel_rfl) ?_ _
  go_wp2_with fail
  go_ret
  exact ⟨ret_int HE.out.symm, H9.out⟩

end Go.Proofs.YtfddmibaojfalaaGreat

/- Compare and compare. -/
namespace Go.Proofs.YtfddmibaojfalaaGreat
open Go.RowKit

set_option maxRecDepth 100000 in
set_option maxHeartbeats 1000000 in
/-- of two slices of one value each -/
theorem compareFunc_one (a b : Nat) (k n k' n' : Int) (s s' : ByteArray) (w : World) (ha : w.heap[a]? = some (vobj k n s)) (hb : w.heap[b]? = some (vobj k' n' s')) :
    Calls Tryz.prog 96 #[.slice (some ⟨a, 0, none⟩) 1 1, .slice (some ⟨b, 0, none⟩) 1 1, .func (.func 97) #[] #[]] w fun e w' => e = .returned (.int .i64 (cmpV ⟨k, n, s⟩ ⟨k', n', s'⟩)) ∧ Below w.heap.size w w' := by
  have HA : Hid (∀ u, Below w.heap.size w u → BoxV u a k n s ∧ a < u.heap.size) := fun u hu => ⟨boxV_of ((hu.block a (lt_of ha)).trans ha), Nat.lt_of_lt_of_le (lt_of ha) hu.size⟩
  have HB : Hid (∀ u, Below w.heap.size w u → BoxV u b k' n' s' ∧ b < u.heap.size) := fun u hu => ⟨boxV_of ((hu.block b (lt_of hb)).trans hb), Nat.lt_of_lt_of_le (lt_of hb) hu.size⟩
  obtain ⟨⟨a0, a1, a2, a3⟩, al⟩ := HA.out w (Below.refl _ _)
  obtain ⟨⟨b0, b1, b2, b3⟩, bl_⟩ := HB.out w (Below.refl _ _)
  obtain ⟨r, hr⟩ : ∃ r, cmpV ⟨k, n, s⟩ ⟨k', n', s'⟩ = r := ⟨_, rfl⟩
  have HC : Hid (∀ u, Calls Tryz.prog 97 #[vagg k n s, vagg k' n' s'] u fun e w' => e = .returned (.int .i64 r) ∧ Below u.heap.size u w') := fun u => hr ▸ compareValues_any k n k' n' s s' u
  rw [hr]
  have hsl := @store_law
  clear ha hb hr
  by_cases gr : r = 0
  · subst gr
    go_enter Tryz.func96, Tryz.ntmps96
    go_wp2_with fail
    refine wp_loop_rounds 2 ?_
    rw [rounds_succ]
    go_wp2_with (go_at_call 97; go_must (refine (HC.out _).mono ?_; rintro e w1 ⟨rfl, hw1⟩))
    have HB1 : Hid (Below w.heap.size w w1) := (bl_alloc ((Below.refl _ w).alloc (Nat.le_refl _) _) _).trans (hw1.mono (by simp; omega))
    rw [rounds_succ]
    go_wp2_with fail
    go_ret
    exact ⟨rfl, HB1.out⟩
  · have gr' : (r != 0) = true := by simpa using gr
    go_enter Tryz.func96, Tryz.ntmps96
    go_wp2_with fail
    refine wp_loop_rounds 2 ?_
    rw [rounds_succ]
    go_wp2_with (go_at_call 97; go_must (refine (HC.out _).mono ?_; rintro e w1 ⟨rfl, hw1⟩))
    have HB1 : Hid (Below w.heap.size w w1) := (bl_alloc ((Below.refl _ w).alloc (Nat.le_refl _) _) _).trans (hw1.mono (by simp; omega))
    go_ret
    exact ⟨rfl, HB1.out⟩

theorem slice_one {w : World} {a : Nat} {k n : Int} {s : ByteArray} (ha : w.heap[a]? = some (vobj k n s)) : SliceAt w (.slice (some ⟨a, 0, none⟩) 1 1) 4 enV [⟨k, n, s⟩] :=
  sliceAt_flat (en := enV) (n := 4) (L := [⟨k, n, s⟩]) (cap := 1) (fun _ => rfl) ha rfl (Nat.le_refl _) (by decide)

set_option maxRecDepth 100000 in
set_option maxHeartbeats 1000000 in
theorem compare_two (a b : Nat) (k n k' n' : Int) (s s' : ByteArray) (w : World) (ha : w.heap[a]? = some (vobj k n s)) (hb : w.heap[b]? = some (vobj k' n' s')) (oa : OkV ⟨k, n, s⟩) (ob : OkV ⟨k', n', s'⟩) :
    Calls Tryz.prog 91 #[.slice (some ⟨a, 0, none⟩) 1 1, .slice (some ⟨b, 0, none⟩) 1 1] w fun e w' => e = .returned (.tuple #[.int .i64 (cmpV ⟨k, n, s⟩ ⟨k', n', s'⟩), .int .i64 0]) ∧ Below w.heap.size w w' := by
  have HA : Hid (∀ u, Below w.heap.size w u → Calls Tryz.prog 72 #[.slice (some ⟨a, 0, none⟩) 1 1] u fun e w' => e = .returned (.tuple #[.int .i64 0, .int .i64 0]) ∧ Below u.heap.size u w') := fun u hu => vcheck_any _ _ u w (slice_one ha) hu (by simp) (fun x hx => by rw [List.mem_singleton.1 hx]; exact oa)
  have HB : Hid (∀ u, Below w.heap.size w u → Calls Tryz.prog 72 #[.slice (some ⟨b, 0, none⟩) 1 1] u fun e w' => e = .returned (.tuple #[.int .i64 0, .int .i64 0]) ∧ Below u.heap.size u w') := fun u hu => vcheck_any _ _ u w (slice_one hb) hu (by simp) (fun x hx => by rw [List.mem_singleton.1 hx]; exact ob)
  have HF : Hid (∀ u, Below w.heap.size w u → Calls Tryz.prog 96 #[.slice (some ⟨a, 0, none⟩) 1 1, .slice (some ⟨b, 0, none⟩) 1 1, .func (.func 97) #[] #[]] u fun e w' => e = .returned (.int .i64 (cmpV ⟨k, n, s⟩ ⟨k', n', s'⟩)) ∧ Below u.heap.size u w') := fun u hu => compareFunc_one a b k n k' n' s s' u ((hu.block a (lt_of ha)).trans ha) ((hu.block b (lt_of hb)).trans hb)
  obtain ⟨r, hr⟩ : ∃ r, cmpV ⟨k, n, s⟩ ⟨k', n', s'⟩ = r := ⟨_, rfl⟩
  rw [hr] at HF ⊢
  clear ha hb oa ob hr
  go_enter Tryz.func91, Tryz.ntmps91
  go_wp2_with fail
  refine (HA.out _ (Below.refl _ _)).mono ?_
  rintro e w1 ⟨rfl, h1⟩
  go_wp2_with fail
  refine (HB.out _ h1).mono ?_
  rintro e w2 ⟨rfl, h2⟩
  have HB2 : Hid (Below w.heap.size w w2) := h1.trans (h2.mono h1.size)
  go_wp2_with (go_at_call 96; go_must (refine (HF.out _ HB2.out).mono ?_; rintro e w3 ⟨rfl, h3⟩))
  go_ret2
  exact ⟨rfl, HB2.out.trans (h3.mono HB2.out.size)⟩

set_option maxRecDepth 100000 in
set_option maxHeartbeats 1000000 in
theorem compare_any (x y : V) (w : World) (ox : OkV x) (oy : OkV y) :
    Calls Tryz.prog 84 #[vagg x.k x.n x.s, vagg y.k y.n y.s] w fun e w' => e = .returned (.int .i64 (cmpV x y)) ∧ Below w.heap.size w w' := by
  obtain ⟨k, n, s⟩ := x
  obtain ⟨k', n', s'⟩ := y
  dsimp only
  have HC : Hid (∀ (u : World) (a b : Nat), u.heap[a]? = some (vobj k n s) → u.heap[b]? = some (vobj k' n' s') → Calls Tryz.prog 91 #[.slice (some ⟨a, 0, none⟩) 1 1, .slice (some ⟨b, 0, none⟩) 1 1] u fun e w' => e = .returned (.tuple #[.int .i64 (cmpV ⟨k, n, s⟩ ⟨k', n', s'⟩), .int .i64 0]) ∧ Below u.heap.size u w') := fun u a b ha hb => compare_two a b k n k' n' s s' u ha hb ox oy
  obtain ⟨r, hr⟩ : ∃ r, cmpV ⟨k, n, s⟩ ⟨k', n', s'⟩ = r := ⟨_, rfl⟩
  rw [hr] at HC ⊢
  have hsl := @store_law
  have HC4 : Hid (Calls Tryz.prog 91 #[.slice (some ⟨w.heap.size + 1 + 1, 0, none⟩) 1 1, .slice (some ⟨w.heap.size + 1 + 1 + 1, 0, none⟩) 1 1] ((((w.alloc (vobj k n s)).alloc (vobj k' n' s')).alloc (vobj k n s)).alloc (vobj k' n' s')) fun e w' => e = .returned (.tuple #[.int .i64 r, .int .i64 0]) ∧ Hid (Below w.heap.size w w')) := by
    have b1 : Below w.heap.size w (w.alloc (vobj k n s)) := (Below.refl _ _).alloc (Nat.le_refl _) _
    have b4 := bl_alloc (bl_alloc (bl_alloc b1 (vobj k' n' s')) (vobj k n s)) (vobj k' n' s')
    have i3 := heap_new ((w.alloc (vobj k n s)).alloc (vobj k' n' s')) (vobj k n s)
    have i4 := heap_new (((w.alloc (vobj k n s)).alloc (vobj k' n' s')).alloc (vobj k n s)) (vobj k' n' s')
    simp only [World.size_alloc] at i3 i4
    exact (HC.out _ _ _ ((Below.heap_alloc _ _ _ (by simp)).trans i3) i4).mono fun e w' ⟨e1, e2⟩ => ⟨e1, b4.trans (e2.mono b4.size)⟩
  clear ox oy hr HC
  go_enter Tryz.func84, Tryz.ntmps84
  go_wp2_with (go_at_call 91; go_must (refine HC4.out.mono ?_; rintro e w1 ⟨rfl, h1⟩))
  go_ret
  exact ⟨rfl, h1.out⟩

end Go.Proofs.YtfddmibaojfalaaGreat
