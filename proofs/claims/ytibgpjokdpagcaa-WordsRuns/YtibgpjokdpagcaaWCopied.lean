/- Tasks that are copied; how great what came in may be. -/
import Derived.Test.YtibgpjokdpagcaaWLend
import Derived.Test.YtibgpjokdpagcaaWArgs
namespace Go.Proofs.Ytibgpjokdpagcaa
open Go.ChangeShapes Go.WideShapes Go.ChangeAt Go.RowKit

theorem sized_of {P : Program} {H : Type} {ec : TypeId × Value → H} {W : World} {fuel : Nat} {T E : TypeId} {v : Value} {x : DataW H × List MemPlace} (hT : P.underlying T = some (.slice E)) (hf : DataW.trod ec P W 0 (fun _ => true) true fuel T [v] = some x) (hw : ∀ k ∈ x.1.weights P T, k ≤ reachBytes) {bytes : Nat} (hb : P.bytesOf E = bytes) {a : Option Addr} {l c : Nat} (hv : v = .slice a l c) : l * bytes ≤ reachBytes := by
  rcases Go.Deep.open_slice hT hf with ⟨hcs, _⟩ | ⟨a', len, cap, m, n, D, Pl, hcs, _, hl, hm, hmm, hxe, _⟩
  · obtain rfl : v = .slice none 0 0 := by simpa using hcs
    cases hv
    rw [Nat.zero_mul]
    exact Nat.zero_le _
  · obtain rfl : v = .slice (some a') len cap := by simpa using hcs
    cases hv
    have h1 := hw ((((List.range l).map D).length + ((List.range (m - l)).map fun j => D (l + j)).length) * bytes) (by
      rw [hxe]
      simp only [DataW.weights, hT, hb]
      exact List.mem_cons_self ..)
    refine Nat.le_trans (Nat.mul_le_mul_right _ ?_) h1
    simp

/-- tasks that came in -/
structure TasksIn (w : World) (v : Value) (T : List TaskV) : Prop where
  at_ : TasksAt w v T
  each : ∀ t ∈ T, NilOk t.v ∧ t.L.length * 32 ≤ reachBytes
  few : T.length * 24 ≤ reachBytes

set_option maxRecDepth 100000 in
theorem tasks_in {H : Type} {ec : TypeId × Value → H} {W : World} {fuel : Nat} {v : Value} {x : DataW H × List MemPlace} (hf : DataW.trod ec Try.prog W 0 (fun _ => true) true fuel 22 [v] = some x) (hw : ∀ n ∈ x.1.weights Try.prog 22, n ≤ reachBytes) : ∃ T : List TaskV, TasksIn W v T := by
  obtain ⟨T, h1, h2⟩ := open_rows (n := 1) Try.underlying22 (by kernel_rfl) (by omega) hf hw (fun t : TaskV => [t.v]) (fun t => SliceAt W t.v 4 InsV.en t.L ∧ NilOk t.v ∧ t.L.length * 32 ≤ reachBytes) (fun m cs y hlen ht hwy => by
    match cs, hlen with
    | [u], _ =>
      obtain ⟨L, hL, _⟩ := instrs_of ht hwy
      have h3 := hL
      obtain ⟨a, c, e, -⟩ := h3
      exact ⟨⟨u, L⟩, rfl, hL, nil_of Try.underlying43 ht, sized_of Try.underlying43 ht hwy (by kernel_rfl) e⟩)
  have h3 := h1
  obtain ⟨a, c, e, -⟩ := h3
  exact ⟨T, ⟨h1, fun t ht => (h2 t ht).1⟩, fun t ht => (h2 t ht).2, sized_of Try.underlying22 hf hw (by kernel_rfl) e⟩

theorem infoN2 : (Try.prog.info? 53).map (fun i => (i.zero, i.size, i.bytes)) = some (some (.agg #[.int .i64 0, .int .i64 0, .int .i64 0, .int .i64 0]), 4, 32) := by kernel_rfl
theorem infoS2 : (Try.prog.info? 43).map (fun i => (i.zero, i.size, i.bytes)) = some (some (.slice none 0 0), 1, 24) := by kernel_rfl

/-- the copies of the first j tasks -/
structure CI (w wr : World) (T : List TaskV) (v : Value) (j : Nat) (C : List TaskV) : Prop where
  len : C.length = j
  same : codes C = (codes T).take j
  own : wr.ownsRow w.heap.size 43 1 v j (C.map TaskV.v)
  each : ∀ t ∈ C, wr.ownsRow w.heap.size 53 4 t.v t.L.length (flat InsV.en t.L)
  below : Below w.heap.size w wr

theorem map_flat1 {α : Type} (f : α → Value) (L : List α) : L.map f = flat (fun x => [f x]) L := map_flat f L

theorem CI.tasks {w wr : World} {T : List TaskV} {v : Value} {C : List TaskV} (h : CI w wr T v T.length C) : TasksAt wr v C ∧ codes C = codes T := by
  refine ⟨⟨own_slice (en := fun t : TaskV => [t.v]) (n := 1) (fun _ => rfl) (by rw [← map_flat1, h.len]; exact h.own), fun t ht => own_slice (en := InsV.en) (n := 4) (fun _ => rfl) (h.each t ht)⟩, ?_⟩
  rw [h.same, ← codes_length T, List.take_length]

theorem CI.next {w wr w1 w' : World} {T : List TaskV} {v v1 v' : Value} {j : Nat} {C : List TaskV} (h : CI w wr T v j C) (hj : j < T.length) {o o1 : Obj}
    (hown1 : w1.ownsRow w.heap.size 53 4 v1 T[j].L.length (flat InsV.en T[j].L)) (hg1 : (wr.alloc o).grownBy w1 (some wr.heap.size))
    (hown : w'.ownsRow w.heap.size 43 1 v' (j + 1) (C.map TaskV.v ++ [v1])) (hg : (w1.alloc o1).grownBy w' v.ownBlock) : CI w w' T v' (j + 1) (C ++ [⟨v1, T[j].L⟩]) := by
  have b1 : Below wr.heap.size wr w1 := ((Below.refl _ wr).alloc (Nat.le_refl _) _).grown hg1 (by simp) (fun i hi => by cases hi; exact Nat.le_refl _)
  have ho1 : w1.ownsRow w.heap.size 43 1 v j (C.map TaskV.v) := ownsRow_block h.own (fun g hv => b1.block g (h.own.lt g hv).2)
  have keep : ∀ {d : Value} {n : Nat} {xs : List Value}, w1.ownsRow w.heap.size 53 4 d n xs → w'.ownsRow w.heap.size 53 4 d n xs := by
    intro d n xs hd
    refine ownsRow_block (hd.alloc o1) (fun g hg2 => ?_)
    obtain ⟨cur, hc, _⟩ := ownsRow_own hd hg2
    refine hg.block g (by simp; have := lt_of hc; omega) (fun e => ?_)
    obtain ⟨cur2, hc2, _⟩ := ownsRow_own ho1 e.symm
    rw [hc] at hc2
    simp at hc2
  refine ⟨by simp [h.len], ?_, ?_, fun t ht => ?_, ?_⟩
  · have hjc : j < (codes T).length := by rw [codes_length]; exact hj
    rw [List.take_succ_eq_append_getElem hjc, ← h.same]
    simp [codes]
  · rw [List.map_append]
    exact hown
  · rcases List.mem_append.1 ht with h1 | h1
    · exact keep (ownsRow_block (h.each t h1) (fun g hv => b1.block g ((h.each t h1).lt g hv).2))
    · rw [List.mem_singleton.1 h1]
      exact keep hown1
  · have b2 := h.below.trans (b1.mono h.below.size)
    exact (b2.alloc b2.size _).grown hg (by simp; have := b2.size; omega) (fun i hi => (ho1.lt i hi).1)

set_option maxRecDepth 100000 in
set_option maxHeartbeats 400000 in
theorem copied_any (v : Value) (T : List TaskV) (w : World) (hT : TasksIn w v T) :
    Calls Try.prog 9 #[v] w fun e w' => ∃ v' C, e = .returned v' ∧ TasksAt w' v' C ∧ codes C = codes T ∧ Below w.heap.size w w' := by
  obtain ⟨i0, hi, hz0, hz1, hz2⟩ := info_parts infoN2
  obtain ⟨i1, ki, kz0, kz1, kz2⟩ := info_parts infoS2
  have HT : Hid (TasksIn w v T) := hT
  obtain ⟨a, c, rfl, hl, hc, hx⟩ := hT.at_.top
  have HX : Hid (T ≠ [] → ∃ b off, a = some ⟨b, off, none⟩ ∧ b < w.heap.size ∧ ∀ i, (h : i < T.length) → ∀ (j : Nat) (u : Value), ([T[i].v])[j]? = some u → w.cell? ⟨b, off + i * 1 + j, none⟩ = some u) := hx
  have hfew := hT.few
  unfold reachBytes at hfew
  unfold maxLen at hc
  clear hx hT
  go_enter Try.func9, Try.ntmps9
  go_wp2_with fail
  go_loopw [3, 4] (fun v i wr => ∃ j : Nat, j ≤ T.length ∧ i = .int .i64 j ∧ ∃ C, CI w wr T v j C) (fun _ i _ => T.length - (intOf i).toNat)
  case atStart => exact ⟨0, Nat.zero_le _, rfl, [], rfl, rfl, ⟨rfl, Or.inl ⟨rfl, rfl⟩⟩, fun t ht => (by cases ht), Below.refl _ _⟩
  case round =>
    obtain ⟨j, hj, rfl, C, hci⟩ := hrel
    have HC : Hid (CI w wr T u3 j C) := hci
    clear hci
    by_cases hlt : j < T.length
    · have hlI : (j : Int) < (T.length : Int) := by omega
      obtain ⟨b, off, rfl, hbl, hcs⟩ := HX.out (by intro e; rw [e] at hlt; simp at hlt)
      obtain ⟨ta, tc, hte2, ht3⟩ := HT.out.at_.each T[j] (List.getElem_mem hlt)
      obtain ⟨hnil, hbig⟩ := HT.out.each T[j] (List.getElem_mem hlt)
      have HTS : Hid (SliceAt w (.slice ta T[j].L.length tc) 4 InsV.en T[j].L) := ⟨ta, tc, rfl, ht3⟩
      have q := hcs j hlt 0 _ rfl
      rw [Nat.mul_one, Nat.add_zero, hte2] at q
      rw [hte2] at hnil
      have HNil : Hid (NilOk (.slice ta T[j].L.length tc)) := hnil
      have HBig : Hid (T[j].L.length * 32 ≤ reachBytes) := hbig
      obtain ⟨lj, hlj⟩ : ∃ l, T[j].L.length = l := ⟨_, rfl⟩
      rw [hlj] at q HTS HNil
      have p0 : wr.cell? ⟨b, off + j, none⟩ = some (.slice ta lj tc) := (HC.out.below.cell hbl).trans q
      have hb1 : Below w.heap.size w (wr.alloc (.cells #[] 53)) := HC.out.below.alloc HC.out.below.size _
      have hbw : b < wr.heap.size := Nat.lt_of_lt_of_le hbl HC.out.below.size
      have HSl : Hid (SliceAt (wr.alloc (.cells #[] 53)) (.slice ta lj tc) 4 InsV.en T[j].L) := HTS.out.below hb1
      have HLJ : Hid (T[j].L.length = lj) := hlj
      have hsz : w.heap.size ≤ wr.heap.size := HC.out.below.size
      have HE : Hid ((wr.alloc (.cells #[] 53 (0, 0))).ownsRow w.heap.size 53 4 (.slice (some ⟨wr.heap.size, 0, none⟩) 0 0) 0 []) := by
        obtain ⟨h1, h2⟩ := row_empty wr 53 4
        refine ⟨h1, ?_⟩
        rcases h2 with h2 | ⟨g, cap, cur, e, e1, e2⟩
        · exact Or.inl h2
        · exact Or.inr ⟨g, cap, cur, e, Nat.le_trans hsz e1, e2⟩
      clear hcs q hte2 ht3 hnil hbig hlj hb1
      go_wp2_with (at_builtin; go_must (refine append_copy rfl _ _ 43 rfl w.heap.size 53 i0 (.agg #[.int .i64 0, .int .i64 0, .int .i64 0, .int .i64 0]) 4 32 Try.underlying43 hi hz0 hz1 hz2 rfl (by decide) wr.heap.size rfl HE.out InsV.en ?q1 ?q2 _ T[j].L rfl HSl.out HNil.out ?q3 ?q4 ?_))
      case q1 => exact fun _ => rfl
      case q2 =>
        intro y u hu
        simp only [InsV.en, List.mem_cons, List.not_mem_nil, or_false] at hu
        rcases hu with rfl | rfl | rfl | rfl <;> rfl
      case q3 => have := HBig.out; unfold reachBytes at this; omega
      case q4 => simp; omega
      intro v1 w1 hown1 hgrow1
      have hb1 : Below wr.heap.size wr w1 := ((Below.refl _ wr).alloc (Nat.le_refl _) _).grown hgrow1 (by simp) (fun i hi => by cases hi; exact Nat.le_refl _)
      have HO2 : Hid ((w1.alloc (.cells #[v1] 43)).ownsRow w.heap.size 43 1 u3 j (C.map TaskV.v)) := (ownsRow_block HC.out.own (fun g hv => hb1.block g (HC.out.own.lt g hv).2)).alloc _
      have hsz1 : w.heap.size ≤ w1.heap.size := Nat.le_trans hsz hb1.size
      have HOw : Hid (w1.ownsRow w.heap.size 53 4 v1 T[j].L.length (flat InsV.en T[j].L)) := hown1
      have HGw : Hid ((wr.alloc (.cells #[] 53)).grownBy w1 (some wr.heap.size)) := hgrow1
      obtain ⟨a1, c1, hv1, -, -, -⟩ := own_slice (en := InsV.en) (n := 4) (fun _ => rfl) hown1
      subst hv1
      clear hown1 hgrow1 hb1 p0
      go_wp2_with (at_builtin; go_must (refine wpList_append_own _ rfl _ _ 22 rfl w.heap.size 43 i1 (.slice none 0 0) 1 24 Try.underlying22 ki kz0 kz1 kz2 rfl (by decide) u3 j (C.map TaskV.v) rfl HO2.out ⟨w1.heap.size, 0, none⟩ 1 1 [.slice a1 T[j].L.length c1] rfl rfl ?q2 ?q3 ?q4 ?q5 ?q6 ?_))
      case q2 =>
        intro i u hu
        rw [Addr.add_lit, cell_of (heap_new w1 _)]
        match i, hu with
        | 0, hu => simpa using hu
      case q3 =>
        intro u hu
        rw [List.mem_singleton.1 hu]
        rfl
      case q4 => unfold maxLen; omega
      case q5 => omega
      case q6 => simp; omega
      intro v2 w2 hown2 hgrow2 _
      have HN2 : Hid (CI w w2 T v2 (j + 1) (C ++ [⟨.slice a1 T[j].L.length c1, T[j].L⟩])) := HC.out.next hlt HOw.out HGw.out hown2 hgrow2
      clear hown2 hgrow2
      go_wp2_with fail
      go_roundw
      case rel => exact ⟨j + 1, by omega, by go_num, _, HN2.out⟩
      case measure => simp [intOf]; omega
    · have hgI : ¬ (j : Int) < (T.length : Int) := by omega
      have ej : j = T.length := by omega
      subst ej
      go_wp2_with fail
      go_ret
      exact ⟨_, rfl, C, HC.out.tasks.1, HC.out.tasks.2, HC.out.below⟩

end Go.Proofs.Ytibgpjokdpagcaa
