/- The document's words: Parts, Word, Empty, Check. -/
import Derived.Test.YtnnkflghnapnpaaNUndone
import Derived.Test.YtnnkflghnapnpaaCopy
import Derived.Laws.MakeOwn
namespace Go.Proofs.Ytnnkflghnapnpaa
open Go.RowKit

def ncells (K : List Nat) : List Value := K.map fun x : Nat => Value.int .i64 (x : Int)
theorem ncells_length (K : List Nat) : (ncells K).length = K.length := by simp [ncells]
theorem ncells_append (A B : List Nat) : ncells (A ++ B) = ncells A ++ ncells B := by simp [ncells]
theorem ncells_get {K : List Nat} {j y : Nat} (h : K[j]? = some y) : (ncells K)[j]? = some (.int .i64 (y : Int)) := by simp [ncells, h]
abbrev OwnN (w : World) (base : Nat) (v : Value) (K : List Nat) : Prop := w.ownsRow base 3 1 v K.length (ncells K)
theorem infoN : (Try.prog.info? 3).map (fun i => (i.zero, i.size, i.bytes)) = some (some (.int .i64 0), 1, 8) := by kernel_rfl

theorem own_shapeN {w : World} {base : Nat} {v : Value} {K : List Nat} (h : OwnN w base v K) : ∃ A c, v = .slice A K.length c := by
  rcases h.2 with ⟨rfl, hn⟩ | ⟨g, cap, cur, rfl, _⟩
  · exact ⟨none, 0, by rw [hn]⟩
  · exact ⟨_, cap, rfl⟩
theorem wpList_wants {P : Program} {w : World} {ops : Array Oper} {rest : List Oper} {o : Oper} {a : Act} {Q : Exit → Act → World → Prop} (hw : Region.wanted o (yielded ops a.tmps) = true)
    (h : ∀ K : Act → World → Prop, (∀ a w, wpList P ops Q rest a w → K a w) → o.wp P a w K Q) : wpList P ops Q (o :: rest) a w := wpList_step fun K hK => by rw [if_pos hw]; exact h K hK

theorem wpList_appN {w : World} {ops : Array Oper} {rest : List Oper} {o : Oper} {a : Act} {Q : Exit → Act → World → Prop} (hw : Region.wanted o (yielded ops a.tmps) = true) (s x : Operand)
    (hop : o.op = .call { callee := .builtin .append, args := #[s, x], argTypes := #[62, 62] }) {base : Nat} {v : Value} {A K : List Nat} {ad : Addr} {m c : Nat}
    (hs : a.eval s = v) (hown : OwnN w base v A) (hx : a.eval x = .slice (some ad) m c) (hm : K.length = m) (hc : ∀ (j y : Nat), K[j]? = some y → w.cell? (ad.add j) = some (.int .i64 (y : Int))) {N : Nat} (hN : A.length + K.length = N) (hA : N ≤ 1000) (hbase : base ≤ w.heap.size)
    (h : ∀ A' c' w', OwnN w' base (.slice A' N c') (A ++ K) → Below base w w' → wpList Try.prog ops Q rest (a.put o.dst (.slice A' N c')) w') : wpList Try.prog ops Q (o :: rest) a w := by
  obtain ⟨i, hi, hz, hsz, hby⟩ := info_parts infoN
  subst hm
  refine wpList_wants hw fun KK hKK => ?_
  refine wp_append_own _ s x 62 hop base 3 i (.int .i64 0) 1 8 Try.underlying62 hi hz hsz hby rfl (by decide) v A.length (ncells A) hs hown ad K.length c (ncells K) hx (by rw [ncells_length, Nat.mul_one]) (fun j u hu => ?_) (fun u hu => ?_) (by unfold maxLen; omega) (by omega) hbase (fun v' w' h1 h2 _ => ?_)
  · have hj : j < K.length := by rw [← ncells_length]; exact (List.getElem?_eq_some_iff.1 hu).1
    have e := ncells_get (List.getElem?_eq_getElem hj)
    rw [hu] at e
    cases e
    exact hc j _ (List.getElem?_eq_getElem hj)
  · obtain ⟨y, _, rfl⟩ := List.mem_map.1 hu
    rfl
  · have hr : OwnN w' base v' (A ++ K) := by unfold OwnN; rw [List.length_append, ncells_append]; exact h1
    obtain ⟨A', c', rfl⟩ := own_shapeN hr
    rw [List.length_append, hN] at *
    refine hKK _ _ (h A' c' w' hr ?_)
    have ht : Turn (fun i => base ≤ i) w w' := Turn.ofGrown h2 (fun g hg => by
      obtain ⟨cur, _, hb⟩ := ownsRow_own hown hg
      exact hb)
    exact ht.toBelow hbase

theorem OwnN.keep {w w' : World} {base : Nat} {v : Value} {K : List Nat} (h : OwnN w base v K) (hb : Below w.heap.size w w') : OwnN w' base v K := ownsRow_block h (fun g hg => by
  obtain ⟨cur, h1, _⟩ := ownsRow_own h hg
  exact hb.block g (lt_of h1))
theorem one_cell {u : World} {x : Nat} {T : TypeId} {fz : Nat × Nat} (j y : Nat) (h : [x][j]? = some y) : (u.alloc (.cells #[.int .i64 (x : Int)] T fz)).cell? (Addr.add ⟨u.heap.size, 0, none⟩ j) = some (.int .i64 (y : Int)) := by
  cases j with
  | zero =>
    simp at h
    subst h
    rw [Addr.add_lit, cell_of (heap_new u _)]
    rfl
  | succ j => simp at h
theorem below_alloc (u : World) (o : Obj) : Below u.heap.size u (u.alloc o) := (Below.refl _ _).alloc (Nat.le_refl _) _
theorem own_nilN (w : World) (base : Nat) : OwnN w base (.slice none 0 0) [] := World.ownsRow_nil _ _ _ _

section
variable {W : Int} {u : Nat} {l : List Nat}
theorem wd_next (h : Wd W u l) {j : Nat} (hj : j < 15) : val ((u :: l).drop j) / 16 = val ((u :: l).drop (j + 1)) ∧ val ((u :: l).drop (j + 1)) % 16 = l.getD j 0 ∧ val ((u :: l).drop j) < 18446744073709551616 := by
  have hl := h.len
  have h1 : j < (u :: l).length := by simp [hl]; omega
  have h2 : j + 1 < (u :: l).length := by simp [hl]; omega
  have d1 := h.all _ (List.getElem_mem h1)
  have d2 := h.all _ (List.getElem_mem h2)
  have e1 : (u :: l).drop j = (u :: l)[j] :: (u :: l).drop (j + 1) := List.drop_eq_getElem_cons h1
  have e2 : (u :: l).drop (j + 1) = (u :: l)[j + 1] :: (u :: l).drop (j + 1 + 1) := List.drop_eq_getElem_cons h2
  have e3 : (u :: l)[j + 1] = l.getD j 0 := by rw [getD_of (by omega)]; rfl
  have hlt := val_lt ((u :: l).drop j) (fun x hx => h.all x (List.mem_of_mem_drop hx))
  have hpow : 16 ^ ((u :: l).drop j).length ≤ 16 ^ 16 := Nat.pow_le_pow_right (by decide) (by rw [List.length_drop, List.length_cons, hl]; omega)
  rw [pow16] at hpow
  refine ⟨?_, ?_, by omega⟩
  · rw [e1, val_cons]; omega
  · rw [e2, val_cons, ← e3]; omega

set_option maxRecDepth 100000 in
theorem parts_any (h : Wd W u l) (w : World) : Calls Try.prog 38 #[.int .u64 W] w fun e w' => ∃ v, e = .returned (.tuple #[.int .i64 (u : Int), v]) ∧ OwnN w' w.heap.size v l ∧ Below w.heap.size w w' := by
  have HW : Hid (Wd W u l) := h
  obtain ⟨w0, w1⟩ := h.range
  have HU : Hid (W % 16 = (u : Int)) := h.used
  obtain ⟨B, hB⟩ : ∃ B, w.heap.size = B := ⟨_, rfl⟩
  have HB : Hid (w.heap.size = B) := hB
  rw [hB]
  clear h hB
  go_enter Try.func38, Try.ntmps38
  go_wp2
  go_loopw [0, 5, 6] (fun a s i wr => ∃ (j : Nat) (X : Int) (A : Option Addr) (c : Nat), j ≤ 15 ∧ i = .int .i64 j ∧ a = .int .u64 X ∧ s = .slice A j c ∧ Hid (X = ((val ((u :: l).drop j) : Nat) : Int)) ∧ Hid (OwnN wr B (.slice A j c) (l.take j)) ∧ Hid (Below B w wr)) (fun _ _ i _ => 15 - (intOf i).toNat)
  case atStart => exact ⟨0, W, none, 0, by omega, rfl, rfl, rfl, HW.out.eq, own_nilN _ _, Below.refl _ _⟩
  case round =>
    obtain ⟨j, X, A, c, hj, rfl, rfl, rfl, HX, HO, HBl⟩ := hrel
    have hsz : B ≤ wr.heap.size := by rw [← HB.out]; exact HBl.out.size
    by_cases hlt : j < 15
    · have hlI : (j : Int) < 15 := by omega
      obtain ⟨n1, n2, n3⟩ := wd_next HW.out hlt
      obtain ⟨Y, hY⟩ : ∃ Y : Int, Y = ((val ((u :: l).drop (j + 1)) : Nat) : Int) := ⟨_, rfl⟩
      obtain ⟨x, hx⟩ : ∃ x, l.getD j 0 = x := ⟨_, rfl⟩
      have hXe := HX.out
      have x0 : 0 ≤ X := by omega
      have x1 : X < 18446744073709551616 := by omega
      have k1 : X / 16 = Y := by rw [hXe, hY, ← n1]; omega
      have k2 : Y % 16 = (x : Int) := by rw [hY, ← hx, ← n2]; omega
      have hx16 : x < 16 := by rw [← hx]; exact getD_lt HW.out.dig j
      have k3 : IntKind.i64.wrap (x : Int) = (x : Int) := by rw [IntKind.wrap_i64]; omega
      have y0 : 0 ≤ Y := by omega
      have y1 : Y < 18446744073709551616 := by omega
      have HY : Hid (Y = ((val ((u :: l).drop (j + 1)) : Nat) : Int)) := hY
      have HT : Hid (l.take j ++ [x] = l.take (j + 1)) := by
        show _ = _
        rw [List.take_add_one, List.getElem?_eq_getElem (by rw [HW.out.len]; exact hlt), ← hx, getD_of (by rw [HW.out.len]; exact hlt)]
        rfl
      have HOa : Hid (OwnN (wr.alloc (.cells #[.int .i64 (x : Int)] 3 (0, 0))) B (.slice A j c) (l.take j)) := HO.out.keep (below_alloc wr _)
      have HLn : Hid ((l.take j).length + [x].length = j + 1) := by
        rw [List.length_take, HW.out.len]
        show min j 15 + 1 = j + 1
        omega
      have HSz : Hid (B ≤ (wr.alloc (.cells #[.int .i64 (x : Int)] 3 (0, 0))).heap.size) := by show _ ≤ _; simp; omega
      clear n1 n2 n3 hx hXe hY
      go_wp2_with (refine wpList_appN rfl _ _ rfl rfl HOa.out rfl (K := [x]) rfl one_cell HLn.out (by omega) HSz.out ?_; intro A' c' w' r b; have R : Hid (OwnN w' B (.slice A' (j + 1) c') (l.take j ++ [x])) := r; have Bb : Hid (Below B w w') := HBl.out.trans (((below_alloc wr _).mono hsz).trans b); clear r b)
      go_roundw
      case rel => exact ⟨j + 1, Y, A', c', by omega, by go_num, rfl, rfl, HY, (by rw [← HT.out]; exact R : Hid (OwnN w' B (.slice A' (j + 1) c') (l.take (j + 1)))), Bb⟩
      case measure => simp [intOf]; omega
    · have hlI : ¬ (j : Int) < 15 := by omega
      have HT : Hid (l.take j = l) := List.take_of_length_le (by rw [HW.out.len]; omega)
      go_wp2
      go_ret2
      refine ⟨.slice A j c, by rw [← HU.out]; rfl, ?_, HBl.out⟩
      have := HO.out
      rw [HT.out] at this
      exact this

/-- a slice of numbers -/
abbrev NumsAt (w : World) (v : Value) (K : List Nat) : Prop := SliceAt w v 1 (fun x : Nat => [Value.int .i64 (x : Int)]) K
theorem own_nums {w : World} {base : Nat} {v : Value} {K : List Nat} (h : OwnN w base v K) : NumsAt w v K := by
  refine own_slice (en := fun x : Nat => [Value.int .i64 (x : Int)]) (base := base) (e := 3) (fun _ => rfl) ?_
  have e : ∀ K : List Nat, flat (fun x : Nat => [Value.int .i64 (x : Int)]) K = ncells K := by
    intro K
    unfold flat ncells
    induction K with
    | nil => rfl
    | cons x K ih =>
      rw [List.flatMap_cons, ih]
      rfl
  rw [e]
  exact h

theorem drop_val {K : List Nat} {j : Nat} (h : j < K.length) : val (K.drop j) = K[j] + 16 * val (K.drop (j + 1)) := by rw [List.drop_eq_getElem_cons h, val_cons]

set_option maxRecDepth 100000 in
theorem word_any {w : World} {v : Value} {K : List Nat} (hv : NumsAt w v K) (hl : K.length = 15) (hd : Dig K) {x : Int} {m : Nat} (hx : x = m) (hm : m < 16) : Calls Try.prog 39 #[.int .i64 x, v] w fun e w' => e = .returned (.int .u64 (wdv m K)) ∧ w' = w := by
  subst hx
  obtain ⟨a, c, rfl, h1, h2, h3⟩ := hv
  have hne : K ≠ [] := by rintro rfl; simp at hl
  obtain ⟨b, off, rfl, -, hc⟩ := h3 hne
  have HC : Hid (∀ (i y : Nat), K[i]? = some y → w.cell? ⟨b, off + i, none⟩ = some (.int .i64 (y : Int))) := fun i y hy => by
    obtain ⟨hi, rfl⟩ := List.getElem?_eq_some_iff.1 hy
    have := hc i hi 0 _ rfl
    rw [Nat.mul_one, Nat.add_zero] at this
    exact this
  have HD : Hid (Dig K) := hd
  have HL : Hid (K.length = 15) := hl
  rw [hl] at h1 ⊢
  clear h3 hc hne hd hl
  unfold maxLen at h2
  go_enter Try.func39, Try.ntmps39
  go_wp2
  go_loop [5, 6] (fun a i => ∃ (j : Nat) (X : Int), j ≤ 15 ∧ i = .int .i64 ((j : Int) - 1) ∧ a = .int .u64 X ∧ Hid (X = ((val (K.drop j) : Nat) : Int))) (fun _ i => (intOf i + 1).toNat)
  case atStart => exact ⟨15, 0, by omega, rfl, rfl, (by rw [List.drop_eq_nil_of_le (by rw [HL.out]; exact Nat.le_refl _)]; rfl : Hid _)⟩
  case round =>
    obtain ⟨j, X, hj, rfl, rfl, HX⟩ := hrel
    have hlt := val_lt (K.drop j) (fun y hy => HD.out y (List.mem_of_mem_drop hy))
    have hpow : 16 ^ (K.drop j).length ≤ 16 ^ (15 - j) := Nat.pow_le_pow_right (by decide) (by rw [List.length_drop, HL.out]; exact Nat.le_refl _)
    by_cases hj0 : j = 0
    · subst hj0
      have hXe := HX.out
      rw [List.drop_zero] at hXe hlt
      rw [HL.out] at hlt
      have hp15 : (16 : Nat) ^ 15 = 1152921504606846976 := by decide
      rw [hp15] at hlt
      have x0 : 0 ≤ X := by omega
      have x1 : X < 1152921504606846976 := by omega
      have HE : Hid (X * 16 + (m : Int) = wdv m K) := by
        show _ = _
        unfold wdv
        rw [val_cons, hXe]
        omega
      clear hXe hlt hpow hp15
      go_wp2
      go_ret
      exact ⟨ret_int HE.out, rfl⟩
    · obtain ⟨i, rfl⟩ : ∃ i, j = i + 1 := ⟨j - 1, by omega⟩
      have hi : i < K.length := by rw [HL.out]; omega
      obtain ⟨y, hy⟩ : ∃ y, K[i]? = some y := ⟨_, List.getElem?_eq_getElem hi⟩
      have hye : K[i] = y := by rw [List.getElem?_eq_getElem hi] at hy; exact Option.some.inj hy
      have q := HC.out i y hy
      have hy16 : y < 16 := HD.out y (List.mem_of_getElem? hy)
      have hdv := drop_val hi
      rw [hye] at hdv
      have hp14 : (16 : Nat) ^ (15 - (i + 1)) ≤ 16 ^ 14 := Nat.pow_le_pow_right (by decide) (by omega)
      have hp14' : (16 : Nat) ^ 14 = 72057594037927936 := by decide
      rw [hp14'] at hp14
      have hXe := HX.out
      have x0 : 0 ≤ X := by omega
      have x1 : X < 72057594037927936 := by omega
      obtain ⟨Y, hY⟩ : ∃ Y : Int, X * 16 + (y : Int) = Y := ⟨_, rfl⟩
      have HY : Hid (Y = ((val (K.drop i) : Nat) : Int)) := by show _ = _; rw [hdv, ← hY, hXe]; omega
      have hii : ((i + 1 : Nat) : Int) - 1 = (i : Int) := by omega
      rw [hii]
      clear hXe hlt hpow hp14 hp14' hdv hye hy hi
      go_wp2
      go_round
      case rel => exact ⟨i, Y, by omega, by go_num, rfl, HY⟩
      case measure => simp [intOf]
end

end Go.Proofs.Ytnnkflghnapnpaa
