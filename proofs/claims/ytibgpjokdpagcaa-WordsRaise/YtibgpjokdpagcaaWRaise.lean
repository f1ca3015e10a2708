/- The walk of WordsRaise. -/
import Derived.Test.YtibgpjokdpagcaaWRaiseP
import Derived.Test.YtibgpjokdpagcaaWWorks
import Derived.Laws.AppendOwnNone
import Derived.Deep.DeepMust
namespace Go.Proofs.Ytibgpjokdpagcaa
open Go.RowKit

namespace Raise
set_option maxRecDepth 100000 in
set_option maxHeartbeats 400000 in
theorem raising_any (w : World) : Calls Try.prog 19 #[.int .i64 0] w fun e w' => e = .returned (.slice (some ⟨w.heap.size, 0, none⟩) 4 4) ∧ w' = w.alloc (.cells #[.int .i64 4, .int .i64 0, .int .i64 0, .int .i64 0, .int .i64 3, .int .i64 1, .int .i64 0, .int .i64 1, .int .i64 6, .int .i64 0, .int .i64 1, .int .i64 0, .int .i64 7, .int .i64 0, .int .i64 0, .int .i64 0] 53) := by
  go_enter Try.func19, Try.ntmps19
  go_wp2_with fail
  go_ret
  exact ⟨rfl, rfl⟩

abbrev oR : Obj := .cells #[.int .i64 4, .int .i64 0, .int .i64 0, .int .i64 0, .int .i64 3, .int .i64 1, .int .i64 0, .int .i64 1, .int .i64 6, .int .i64 0, .int .i64 1, .int .i64 0, .int .i64 7, .int .i64 0, .int .i64 0, .int .i64 0] 53

/-- j tasks that raise, laid by the law itself -/
def TIT (w wr : World) (v : Value) (j : Nat) (T : List TaskV) : Prop := T.length = j ∧ wr.ownsRow w.heap.size 43 1 v j (T.map TaskV.v) ∧ (∀ t ∈ T, t.L = code ∧ ∃ b, t.v = .slice (some ⟨b, 0, none⟩) 4 4 ∧ wr.heap[b]? = some oR) ∧ Below w.heap.size w wr

def TI (w wr : World) (v : Value) (j : Nat) : Prop := ∃ T, TIT w wr v j T

theorem infoS : (Try.prog.info? 43).map (fun i => (i.zero, i.size, i.bytes)) = some (some (.slice none 0 0), 1, 24) := by kernel_rfl
theorem infoI : (Try.prog.info? 3).map (fun i => (i.zero, i.size, i.bytes)) = some (some (.int .i64 0), 1, 8) := by kernel_rfl
theorem info_parts {e : TypeId} {z : Value} {size bytes : Nat} (h : (Try.prog.info? e).map (fun i => (i.zero, i.size, i.bytes)) = some (some z, size, bytes)) : ∃ i, Try.prog.info? e = some i ∧ i.zero = some z ∧ i.size = size ∧ i.bytes = bytes := by
  cases hq : Try.prog.info? e with
  | none => rw [hq] at h; cases h
  | some i =>
    rw [hq] at h
    simp only [Option.map_some, Option.some.injEq, Prod.mk.injEq] at h
    exact ⟨i, rfl, h.1, h.2.1, h.2.2⟩

theorem TIT.next {w wr w' : World} {v v' : Value} {j : Nat} {T : List TaskV} (h : TIT w wr v j T) {o : Obj} (hown : w'.ownsRow w.heap.size 43 1 v' (j + 1) (T.map TaskV.v ++ [.slice (some ⟨wr.heap.size, 0, none⟩) 4 4])) (hg : ((wr.alloc oR).alloc o).grownBy w' v.ownBlock) : TI w w' v' (j + 1) := by
  obtain ⟨hl, ho, he, hb⟩ := h
  have hne : ∀ b g, v.ownBlock = some g → wr.heap[b]? = some oR → b ≠ g := by
    intro b g hv hh e
    obtain ⟨cur, hc, _⟩ := ownsRow_own ho hv
    rw [← e, hh] at hc
    simp at hc
  have ht := Turn.ofGrown (S := fun i => v.ownBlock = some i) hg (fun k e => e)
  have hnew : v.ownBlock ≠ some wr.heap.size := by
    intro e
    obtain ⟨cur, hc, _⟩ := ownsRow_own ho e
    exact absurd (lt_of hc) (Nat.lt_irrefl _)
  refine ⟨T ++ [⟨.slice (some ⟨wr.heap.size, 0, none⟩) 4 4, code⟩], by simp [hl], ?_, fun t ht' => ?_, ?_⟩
  · rw [List.map_append]
    exact hown
  · rcases List.mem_append.1 ht' with h1 | h1
    · obtain ⟨e1, b, e2, e3⟩ := he t h1
      refine ⟨e1, b, e2, (ht.block b (by simp; have := lt_of e3; omega) (fun e => hne b b e e3 rfl)).trans ?_⟩
      rw [heap_alloc, if_neg (by simp; have := lt_of e3; omega), heap_alloc, if_neg (by have := lt_of e3; omega)]
      exact e3
    · rw [List.mem_singleton.1 h1]
      refine ⟨rfl, wr.heap.size, rfl, (ht.block _ (by simp; omega) hnew).trans ?_⟩
      rw [heap_alloc, if_neg (by simp), heap_new]
  · exact ((hb.alloc hb.size _).alloc (by simp; have := hb.size; omega) _).grown hg (by simp; have := hb.size; omega) (fun i hi => by
      obtain ⟨cur, hc, hx⟩ := ownsRow_own ho hi
      exact hx)

theorem own_slice {α : Type} {en : α → List Value} {n : Nat} (hm : ∀ g, (en g).length = n) {w : World} {base : Nat} {e : TypeId} {v : Value} {L : List α} (h : w.ownsRow base e n v L.length (flat en L)) : SliceAt w v n en L := by
  obtain ⟨h1, h2⟩ := h
  rcases h2 with ⟨rfl, h0⟩ | ⟨g, cap, cur, rfl, _, hg, hc, hm2, _, hx⟩
  · have : L = [] := List.length_eq_zero_iff.1 h0
    subst this
    exact ⟨none, 0, rfl, Nat.le_refl _, Nat.zero_le _, fun h => absurd rfl h⟩
  · exact sliceAt_flat hm hg hx hc hm2
theorem map_flat {α : Type} (f : α → Value) (L : List α) : L.map f = flat (fun x => [f x]) L := by
  induction L with
  | nil => rfl
  | cons x L ih => rw [flat_cons, ← ih]; rfl

theorem TI.tasks {w wr : World} {v : Value} {j : Nat} (h : TI w wr v j) : ∃ T : List TaskV, T.length = j ∧ TasksAt wr v T ∧ codes T = List.replicate j code ∧ Below w.heap.size w wr := by
  obtain ⟨T, hl, ho, he, hb⟩ := h
  refine ⟨T, hl, ⟨own_slice (en := fun t : TaskV => [t.v]) (n := 1) (fun _ => rfl) (by rw [← map_flat, hl]; exact ho), fun t ht => ?_⟩, ?_, hb⟩
  · obtain ⟨e1, b, e2, e3⟩ := he t ht
    rw [e1, e2]
    exact sliceAt_flat (en := InsV.en) (n := 4) (cap := 4) (L := code) (fun _ => rfl) e3 rfl (by decide) (by decide)
  · rw [← hl]
    clear ho hl
    induction T with
    | nil => rfl
    | cons t T ih =>
      show t.L :: codes T = code :: List.replicate T.length code
      rw [ih (fun x hx => he x (by simp [hx])), (he t (by simp)).1]

/-- the picks so far -/
def PIQ (u wr : World) (k : Nat) (v : Value) (j : Nat) (Q : List Int) : Prop := Q.length = j ∧ (∀ q ∈ Q, 0 ≤ q ∧ q < k) ∧ wr.ownsRow u.heap.size 3 1 v j (Q.map (Value.int .i64)) ∧ Below u.heap.size u wr

def PI (u wr : World) (k : Nat) (v : Value) (j : Nat) : Prop := ∃ Q, PIQ u wr k v j Q
theorem PIQ.next {u wr w' : World} {k : Nat} {v v' : Value} {j q : Nat} {Q : List Int} (h : PIQ u wr k v j Q) (hq : q < k) {o : Obj} (hown : w'.ownsRow u.heap.size 3 1 v' (j + 1) (Q.map (Value.int .i64) ++ [.int .i64 (q : Int)])) (hg : (wr.alloc o).grownBy w' v.ownBlock) : PI u w' k v' (j + 1) := by
  obtain ⟨hl, ha, ho, hb⟩ := h
  refine ⟨Q ++ [(q : Int)], by simp [hl], fun x hx => ?_, ?_, ?_⟩
  · rcases List.mem_append.1 hx with h1 | h1
    · exact ha x h1
    · rw [List.mem_singleton.1 h1]; omega
  · rw [List.map_append]
    exact hown
  · exact (hb.alloc hb.size _).grown hg (by simp; have := hb.size; omega) (fun i hi => by
      obtain ⟨cur, hc, hx⟩ := ownsRow_own ho hi
      exact hx)

theorem many_nat (many : Int) : ∃ k : Nat, 1 ≤ k ∧ k ≤ 6 ∧ wrap64 (1 + wrap64 ((IntKind.u64.wrap many).tmod 6)) = (k : Int) := by
  have h0 : 0 ≤ IntKind.u64.wrap many := by rw [IntKind.wrap_u64]; exact Int.emod_nonneg _ (by decide)
  have h1 := Int.tmod_nonneg 6 h0
  have h2 := Int.tmod_lt_of_pos (IntKind.u64.wrap many) (show (0 : Int) < 6 by decide)
  obtain ⟨q, hq⟩ := Int.eq_ofNat_of_zero_le h1
  refine ⟨q + 1, by omega, by omega, ?_⟩
  rw [hq]
  unfold wrap64
  omega
theorem pick_nat (x : Int) (k : Nat) (hk : 1 ≤ k) (hk2 : k ≤ 6) : ∃ q : Nat, q < k ∧ wrap64 ((IntKind.u64.wrap x).tmod (k : Int)) = (q : Int) := by
  have h0 : 0 ≤ IntKind.u64.wrap x := by rw [IntKind.wrap_u64]; exact Int.emod_nonneg _ (by decide)
  have h1 := Int.tmod_nonneg (k : Int) h0
  have h2 := Int.tmod_lt_of_pos (IntKind.u64.wrap x) (show (0 : Int) < k by omega)
  obtain ⟨q, hq⟩ := Int.eq_ofNat_of_zero_le h1
  refine ⟨q, by omega, ?_⟩
  rw [hq]
  unfold wrap64
  omega

set_option maxRecDepth 100000 in
set_option maxHeartbeats 400000 in
theorem walk (many : Int) (vp : Value) (ps : List Int) (w : World) (hP : IntsAt w vp ps) :
    Calls Try.prog 5 #[.int .i64 many, vp] w fun e w' => e = .returned (.bool true) ∧ Below w.heap.size w w' := by
  obtain ⟨ap, cp, rfl, hlp, hcp, hxp⟩ := hP
  have HXP : Hid (ps ≠ [] → ∃ b off, ap = some ⟨b, off, none⟩ ∧ b < w.heap.size ∧ ∀ i, (h : i < ps.length) → ∀ (j : Nat) (u : Value), ([Value.int .i64 ps[i]])[j]? = some u → w.cell? ⟨b, off + i * 1 + j, none⟩ = some u) := hxp
  obtain ⟨i0, hi, hz0, hz1, hz2⟩ := info_parts infoS
  obtain ⟨i1, ki, kz0, kz1, kz2⟩ := info_parts infoI
  unfold maxLen at hcp
  clear hxp
  go_enter Try.func5, Try.ntmps5
  go_wp2_with fail
  refine (works_any _).mono ?_
  rintro e w1 ⟨rfl, hb1⟩
  have HB1 : Hid (Below w.heap.size w w1) := hb1
  clear hb1
  go_wp2_with fail
  obtain ⟨k, hk1, hk6, hke⟩ := many_nat many
  rw [hke]
  generalize wrap64 ((IntKind.u64.wrap many).tmod 6) = j1
  generalize (IntKind.u64.wrap many).tmod 6 = j2
  generalize IntKind.u64.wrap many = j3
  clear hke
  go_loopw [5, 22] (fun v i wr => ∃ j : Nat, j ≤ k ∧ i = .int .i64 j ∧ TI w1 wr v j) (fun _ i _ => k - (intOf i).toNat)
  case atStart => exact ⟨0, Nat.zero_le _, rfl, [], rfl, ⟨rfl, Or.inl ⟨rfl, rfl⟩⟩, fun t ht => (by cases ht), Below.refl _ _⟩
  case round =>
    obtain ⟨j, hj, rfl, hti⟩ := hrel
    have HTI : Hid (TI w1 wr u5 j) := hti
    clear hti
    by_cases hlt : j < k
    · have hlI : (j : Int) < (k : Int) := by omega
      obtain ⟨T, hT⟩ := HTI.out
      have HO : Hid (((wr.alloc oR).alloc (.cells #[.slice (some ⟨wr.heap.size, 0, none⟩) 4 4] 43)).ownsRow w1.heap.size 43 1 u5 j (T.map TaskV.v)) := (hT.2.1.alloc _).alloc _
      have hsz : w1.heap.size ≤ wr.heap.size := hT.2.2.2.size
      have HT : Hid (TIT w1 wr u5 j T) := hT
      clear hT
      go_wp2_with fail
      refine (raising_any _).mono ?_
      rintro e u ⟨rfl, rfl⟩
      go_wp2_with (at_builtin; go_must (refine wpList_append_own _ rfl _ _ 22 rfl w1.heap.size 43 i0 (.slice none 0 0) 1 24 Try.underlying22 hi hz0 hz1 hz2 rfl (by decide) u5 j (T.map TaskV.v) rfl HO.out ⟨wr.heap.size + 1, 0, none⟩ 1 1 [.slice (some ⟨wr.heap.size, 0, none⟩) 4 4] rfl rfl ?q2 ?q3 ?q4 ?q5 ?q6 ?_))
      case q2 =>
        intro i u hu
        have e := heap_new (wr.alloc oR) (.cells #[.slice (some ⟨wr.heap.size, 0, none⟩) 4 4] 43)
        rw [World.size_alloc] at e
        rw [Addr.add_lit, cell_of e]
        match i, hu with
        | 0, hu => simpa using hu
      case q3 =>
        intro u hu
        rw [List.mem_singleton.1 hu]
        rfl
      case q4 => unfold maxLen; omega
      case q5 => omega
      case q6 => simp; omega
      intro v2 w2 hown2 hgrow2 _
      have HN : Hid (TI w1 w2 v2 (j + 1)) := HT.out.next hown2 hgrow2
      clear hown2 hgrow2
      go_wp2_with fail
      go_roundw
      case rel => exact ⟨j + 1, by omega, by go_num, HN.out⟩
      case measure => simp [intOf]; omega
    · have hgI : ¬ (j : Int) < (k : Int) := by omega
      have ej : j = k := by omega
      subst ej
      obtain ⟨T, hTl, hTA, hTc, hTb⟩ := HTI.out.tasks
      have HTA : Hid (TasksAt wr u5 T) := hTA
      have HTC : Hid (codes T = List.replicate j code) := hTc
      have HB2 : Hid (Below w.heap.size w wr) := HB1.out.trans (hTb.mono HB1.out.size)
      clear hTA hTc hTb HTI
      go_wp2_with fail
      clear HB1
      generalize wr = u0 at *
      go_loopw [6, 7] (fun v i wr => ∃ n : Nat, n ≤ ps.length ∧ n ≤ 500 ∧ i = .int .i64 n ∧ PI u0 wr j v n) (fun _ i _ => ps.length - (intOf i).toNat)
      case atStart => exact ⟨0, Nat.zero_le _, Nat.zero_le _, rfl, [], rfl, fun q hq => (by cases hq), ⟨rfl, Or.inl ⟨rfl, rfl⟩⟩, Below.refl _ _⟩
      case round =>
        obtain ⟨n, hn, hn5, rfl, hpi⟩ := hrel
        have HPI : Hid (PI u0 wr j u6 n) := hpi
        clear hpi
        by_cases hlt : n < ps.length
        · have hlI : (n : Int) < (ps.length : Int) := by omega
          by_cases h5 : n < 500
          · have h5I : (n : Int) < 500 := by omega
            obtain ⟨Q, hQ⟩ := HPI.out
            obtain ⟨b, off, rfl, hbl, hcs⟩ := HXP.out (by intro e; rw [e] at hlt; simp at hlt)
            obtain ⟨x, hxe⟩ : ∃ x, ps[n] = x := ⟨_, rfl⟩
            have q := hcs n hlt 0 _ rfl
            rw [hxe, Nat.mul_one, Nat.add_zero] at q
            have hbw : Below w.heap.size w wr := HB2.out.trans (hQ.2.2.2.mono HB2.out.size)
            have p0 : wr.cell? ⟨b, off + n, none⟩ = some (.int .i64 x) := (hbw.cell hbl).trans q
            obtain ⟨q0, hq0, hqe⟩ := pick_nat x j hk1 hk6
            have hu64 : IntKind.u64.wrap (j : Int) = (j : Int) := by rw [IntKind.wrap_u64]; omega
            have hjz : ((j : Int) == 0) = false := by rw [beq_eq_false_iff_ne]; omega
            have HO : Hid ((wr.alloc (.cells #[.int .i64 (q0 : Int)] 3)).ownsRow u0.heap.size 3 1 u6 n (Q.map (Value.int .i64))) := hQ.2.2.1.alloc _
            have hsz : u0.heap.size ≤ wr.heap.size := hQ.2.2.2.size
            have HQ : Hid (PIQ u0 wr j u6 n Q) := hQ
            clear hQ hcs q hbw hxe
            go_wp2_with (at_builtin; go_must (refine wpList_append_own _ rfl _ _ 24 rfl u0.heap.size 3 i1 (.int .i64 0) 1 8 Try.underlying24 ki kz0 kz1 kz2 rfl (by decide) u6 n (Q.map (Value.int .i64)) rfl HO.out ⟨wr.heap.size, 0, none⟩ 1 1 [.int .i64 (q0 : Int)] rfl rfl ?q2 ?q3 ?q4 ?q5 ?q6 ?_))
            case q2 =>
              intro i u hu
              rw [Addr.add_lit, cell_of (heap_new wr _)]
              match i, hu with
              | 0, hu => simpa using hu
            case q3 =>
              intro u hu
              rw [List.mem_singleton.1 hu]
              rfl
            case q4 => unfold maxLen; omega
            case q5 => omega
            case q6 => simp; omega
            intro v2 w2 hown2 hgrow2 _
            have HN : Hid (PI u0 w2 j v2 (n + 1)) := HQ.out.next hq0 hown2 hgrow2
            clear hown2 hgrow2
            go_wp2_with fail
            go_roundw
            case rel => exact ⟨n + 1, by omega, by omega, by go_num, HN.out⟩
            case measure => simp [intOf]; omega
          · have h5I : ¬ (n : Int) < 500 := by omega
            go_wp2_with fail
            obtain ⟨Q, hQ⟩ := HPI.out
            have hbu : Below u0.heap.size u0 (wr.alloc (.cells #[.int .u64 7] 38)) := hQ.2.2.2.alloc hQ.2.2.2.size _
            have HC7 : Hid (WordsAt (wr.alloc (.cells #[.int .u64 7] 38)) (.slice (some ⟨wr.heap.size, 0, none⟩) 1 1) [7]) := sliceAt_flat (en := fun x : Int => [Value.int .u64 x]) (n := 1) (cap := 1) (L := [(7 : Int)]) (fun _ => rfl) (heap_new wr _) rfl (by decide) (by decide)
            have HPQ : Hid (IntsAt (wr.alloc (.cells #[.int .u64 7] 38)) u6 Q) := own_slice (en := fun x : Int => [Value.int .i64 x]) (n := 1) (fun _ => rfl) (by rw [← map_flat, hQ.1]; exact hQ.2.2.1.alloc _)
            obtain ⟨S, hS⟩ : ∃ S, (Sys.start (codes T) [7]).run (codes T) Q = S := ⟨_, rfl⟩
            have hInv : Inv j S := by
              rw [← hS, HTC.out]
              exact (Inv.start j).run hk6 hQ.2.1
            have HB3 : Hid (Below w.heap.size w (wr.alloc (.cells #[.int .u64 7] 38))) := HB2.out.trans (hbu.mono HB2.out.size)
            have HNE : Hid (runE (codes T) ([7] : List Int).length Q = 0) := by
              rw [HTC.out]
              exact noE hk6 (by rw [hQ.1]; exact hn5) hQ.2.1
            have HSR : Hid ((Sys.start (codes T) [7]).run (codes T) Q = S) := hS
            refine (run_ok (HTA.out.below hbu) HC7.out (words_one (by decide)) HPQ.out HNE.out HSR.out).mono ?_
            rintro e w5 ⟨h, g2, g3, rfl, hR, -, hb5⟩
            obtain ⟨sm, hsm⟩ : ∃ sm, (S.ms.map up).sum = sm := ⟨_, rfl⟩
            obtain ⟨D, hD⟩ : ∃ D, donesOf (codes T) S.ms = D := ⟨_, rfl⟩
            have hDl : D.length = j := by rw [← hD, HTC.out]; simp [donesOf, hInv.len]
            have hcD : count D ≤ sm := by rw [← hD, ← hsm, HTC.out]; exact done_le j S.ms hInv.len hInv.each
            have hsj : sm ≤ j := by rw [← hsm, ← hInv.len]; exact sum_le S.ms
            have hc7 : S.c = [((7 + sm : Nat) : Int)] := by rw [hInv.c, hsm]
            rw [hD, hc7] at hR
            rw [hTl]
            generalize S.steps = stp
            have hb6 : Below w5.heap.size w5 (w5.alloc (.cells #[.slice (some ⟨h, 0, none⟩) 1 1, .slice (some ⟨g2, 0, none⟩) j j, .slice (some ⟨g3, 0, none⟩) j j, .int .i64 (stp : Int)] 34)) := (Below.refl _ _).alloc (Nat.le_refl _) _
            have HB6 : Hid (Below w.heap.size w (w5.alloc (.cells #[.slice (some ⟨h, 0, none⟩) 1 1, .slice (some ⟨g2, 0, none⟩) j j, .slice (some ⟨g3, 0, none⟩) j j, .int .i64 (stp : Int)] 34))) := (HB3.out.trans (hb5.mono HB3.out.size)).trans (hb6.mono (Nat.le_trans HB3.out.size hb5.size))
            have c0 : (w5.alloc (.cells #[.slice (some ⟨h, 0, none⟩) 1 1, .slice (some ⟨g2, 0, none⟩) j j, .slice (some ⟨g3, 0, none⟩) j j, .int .i64 (stp : Int)] 34)).cell? ⟨h, 0, none⟩ = some (.int .u64 ((7 : Int) + (sm : Int))) := repG_c hR hb6 (i := 0) (by simp)
            have HDc : Hid (∀ t, (ht : t < D.length) → (w5.alloc (.cells #[.slice (some ⟨h, 0, none⟩) 1 1, .slice (some ⟨g2, 0, none⟩) j j, .slice (some ⟨g3, 0, none⟩) j j, .int .i64 (stp : Int)] 34)).cell? ⟨g3, t, none⟩ = some (.bool D[t])) := fun t ht => repG_d hR hb6 ht
            have hx6 : (w5.alloc (.cells #[.slice (some ⟨h, 0, none⟩) 1 1, .slice (some ⟨g2, 0, none⟩) j j, .slice (some ⟨g3, 0, none⟩) j j, .int .i64 (stp : Int)] 34)).heap[w5.heap.size]? = some (.cells #[.slice (some ⟨h, 0, none⟩) 1 1, .slice (some ⟨g2, 0, none⟩) j j, .slice (some ⟨g3, 0, none⟩) j j, .int .i64 (stp : Int)] 34 (0, 0)) := heap_new w5 _
            have HX0 : Hid ((w5.alloc (.cells #[.slice (some ⟨h, 0, none⟩) 1 1, .slice (some ⟨g2, 0, none⟩) j j, .slice (some ⟨g3, 0, none⟩) j j, .int .i64 (stp : Int)] 34)).cell? ⟨w5.heap.size, 0, none⟩ = some (.slice (some ⟨h, 0, none⟩) 1 1)) := by show _ = _; rw [cell_of hx6]; rfl
            have hz7 : ¬ ((7 : Int) + (sm : Int) < 7) := by omega
            have hjn : ((j : Int) != (j : Int)) = false := by simp
            clear hS hInv hR hD hsm hc7 hQ hbu hb5 hb6 hx6 HB3 HNE HSR HPQ HC7 hz0 hz1 hz2 kz0 kz1 kz2 hi ki
            go_wp2_with (fail)
            have hc0 : (w5.alloc (.cells #[.slice (some ⟨h, 0, none⟩) 1 1, .slice (some ⟨g2, 0, none⟩) j j, .slice (some ⟨g3, 0, none⟩) j j, .int .i64 (stp : Int)] 34)).cell? ⟨h, 0, none⟩ = some (.int .u64 ((7 : Int) + (sm : Int))) := c0
            generalize (w5.alloc (.cells #[.slice (some ⟨h, 0, none⟩) 1 1, .slice (some ⟨g2, 0, none⟩) j j, .slice (some ⟨g3, 0, none⟩) j j, .int .i64 (stp : Int)] 34)) = w6 at *
            generalize w5.heap.size = xb at *
            go_loopw [10, 83] (fun d i wr => ∃ m : Nat, m ≤ j ∧ i = .int .i64 m ∧ d = .int .i64 (count (D.take m)) ∧ wr = w6) (fun _ i _ => j - (intOf i).toNat)
            case atStart => exact ⟨0, Nat.zero_le _, rfl, rfl, rfl⟩
            case round =>
              obtain ⟨m, hm, rfl, rfl, rfl⟩ := hrel
              by_cases hmj : m < j
              · have hmI : (m : Int) < (j : Int) := by omega
                have d0 := HDc.out m (by omega)
                have HCt : Hid (count (D.take (m + 1)) = count (D.take m) + if D[m] then 1 else 0) := count_take D m (by omega)
                have hcl : count (D.take m) ≤ m := by
                  have h1 := count_le (D.take m)
                  rw [List.length_take] at h1
                  omega
                generalize count (D.take m) = cm at *
                cases hb : D[m] with
                | true =>
                  rw [hb] at d0
                  have HC2 : Hid (count (D.take (m + 1)) = cm + 1) := by have := HCt.out; rw [hb] at this; exact this
                  clear hb HCt
                  go_wp2_with fail
                  go_roundw
                  case rel => exact ⟨m + 1, by omega, by go_num, by rw [HC2.out]; go_num, by first | rfl | trivial⟩
                  case measure => simp [intOf]; omega
                | false =>
                  rw [hb] at d0
                  have HC2 : Hid (count (D.take (m + 1)) = cm) := by have := HCt.out; rw [hb] at this; exact this
                  clear hb HCt
                  go_wp2_with fail
                  go_roundw
                  case rel => exact ⟨m + 1, by omega, by go_num, by rw [HC2.out], by first | rfl | trivial⟩
                  case measure => simp [intOf]; omega
              · have hmI : ¬ (m : Int) < (j : Int) := by omega
                have em : m = j := by omega
                have hct : count (D.take m) ≤ sm := by rw [em, ← hDl, List.take_length]; exact hcD
                have x0 := HX0.out
                generalize count (D.take m) = cm at *
                clear hcD
                go_wp2_with fail
                go_ret
                exact ⟨ret_bool (decide_eq_true (by omega)), HB6.out⟩
        · have hgI : ¬ (n : Int) < (ps.length : Int) := by omega
          go_wp2_with fail
          obtain ⟨Q, hQ⟩ := HPI.out
          have hbu : Below u0.heap.size u0 (wr.alloc (.cells #[.int .u64 7] 38)) := hQ.2.2.2.alloc hQ.2.2.2.size _
          have HC7 : Hid (WordsAt (wr.alloc (.cells #[.int .u64 7] 38)) (.slice (some ⟨wr.heap.size, 0, none⟩) 1 1) [7]) := sliceAt_flat (en := fun x : Int => [Value.int .u64 x]) (n := 1) (cap := 1) (L := [(7 : Int)]) (fun _ => rfl) (heap_new wr _) rfl (by decide) (by decide)
          have HPQ : Hid (IntsAt (wr.alloc (.cells #[.int .u64 7] 38)) u6 Q) := own_slice (en := fun x : Int => [Value.int .i64 x]) (n := 1) (fun _ => rfl) (by rw [← map_flat, hQ.1]; exact hQ.2.2.1.alloc _)
          obtain ⟨S, hS⟩ : ∃ S, (Sys.start (codes T) [7]).run (codes T) Q = S := ⟨_, rfl⟩
          have hInv : Inv j S := by
            rw [← hS, HTC.out]
            exact (Inv.start j).run hk6 hQ.2.1
          have HB3 : Hid (Below w.heap.size w (wr.alloc (.cells #[.int .u64 7] 38))) := HB2.out.trans (hbu.mono HB2.out.size)
          have HNE : Hid (runE (codes T) ([7] : List Int).length Q = 0) := by
            rw [HTC.out]
            exact noE hk6 (by rw [hQ.1]; exact hn5) hQ.2.1
          have HSR : Hid ((Sys.start (codes T) [7]).run (codes T) Q = S) := hS
          refine (run_ok (HTA.out.below hbu) HC7.out (words_one (by decide)) HPQ.out HNE.out HSR.out).mono ?_
          rintro e w5 ⟨h, g2, g3, rfl, hR, -, hb5⟩
          obtain ⟨sm, hsm⟩ : ∃ sm, (S.ms.map up).sum = sm := ⟨_, rfl⟩
          obtain ⟨D, hD⟩ : ∃ D, donesOf (codes T) S.ms = D := ⟨_, rfl⟩
          have hDl : D.length = j := by rw [← hD, HTC.out]; simp [donesOf, hInv.len]
          have hcD : count D ≤ sm := by rw [← hD, ← hsm, HTC.out]; exact done_le j S.ms hInv.len hInv.each
          have hsj : sm ≤ j := by rw [← hsm, ← hInv.len]; exact sum_le S.ms
          have hc7 : S.c = [((7 + sm : Nat) : Int)] := by rw [hInv.c, hsm]
          rw [hD, hc7] at hR
          rw [hTl]
          generalize S.steps = stp
          have hb6 : Below w5.heap.size w5 (w5.alloc (.cells #[.slice (some ⟨h, 0, none⟩) 1 1, .slice (some ⟨g2, 0, none⟩) j j, .slice (some ⟨g3, 0, none⟩) j j, .int .i64 (stp : Int)] 34)) := (Below.refl _ _).alloc (Nat.le_refl _) _
          have HB6 : Hid (Below w.heap.size w (w5.alloc (.cells #[.slice (some ⟨h, 0, none⟩) 1 1, .slice (some ⟨g2, 0, none⟩) j j, .slice (some ⟨g3, 0, none⟩) j j, .int .i64 (stp : Int)] 34))) := (HB3.out.trans (hb5.mono HB3.out.size)).trans (hb6.mono (Nat.le_trans HB3.out.size hb5.size))
          have c0 : (w5.alloc (.cells #[.slice (some ⟨h, 0, none⟩) 1 1, .slice (some ⟨g2, 0, none⟩) j j, .slice (some ⟨g3, 0, none⟩) j j, .int .i64 (stp : Int)] 34)).cell? ⟨h, 0, none⟩ = some (.int .u64 ((7 : Int) + (sm : Int))) := repG_c hR hb6 (i := 0) (by simp)
          have HDc : Hid (∀ t, (ht : t < D.length) → (w5.alloc (.cells #[.slice (some ⟨h, 0, none⟩) 1 1, .slice (some ⟨g2, 0, none⟩) j j, .slice (some ⟨g3, 0, none⟩) j j, .int .i64 (stp : Int)] 34)).cell? ⟨g3, t, none⟩ = some (.bool D[t])) := fun t ht => repG_d hR hb6 ht
          have hx6 : (w5.alloc (.cells #[.slice (some ⟨h, 0, none⟩) 1 1, .slice (some ⟨g2, 0, none⟩) j j, .slice (some ⟨g3, 0, none⟩) j j, .int .i64 (stp : Int)] 34)).heap[w5.heap.size]? = some (.cells #[.slice (some ⟨h, 0, none⟩) 1 1, .slice (some ⟨g2, 0, none⟩) j j, .slice (some ⟨g3, 0, none⟩) j j, .int .i64 (stp : Int)] 34 (0, 0)) := heap_new w5 _
          have HX0 : Hid ((w5.alloc (.cells #[.slice (some ⟨h, 0, none⟩) 1 1, .slice (some ⟨g2, 0, none⟩) j j, .slice (some ⟨g3, 0, none⟩) j j, .int .i64 (stp : Int)] 34)).cell? ⟨w5.heap.size, 0, none⟩ = some (.slice (some ⟨h, 0, none⟩) 1 1)) := by show _ = _; rw [cell_of hx6]; rfl
          have hz7 : ¬ ((7 : Int) + (sm : Int) < 7) := by omega
          have hjn : ((j : Int) != (j : Int)) = false := by simp
          clear hS hInv hR hD hsm hc7 hQ hbu hb5 hb6 hx6 HB3 HNE HSR HPQ HC7 hz0 hz1 hz2 kz0 kz1 kz2 hi ki
          go_wp2_with (fail)
          have hc0 : (w5.alloc (.cells #[.slice (some ⟨h, 0, none⟩) 1 1, .slice (some ⟨g2, 0, none⟩) j j, .slice (some ⟨g3, 0, none⟩) j j, .int .i64 (stp : Int)] 34)).cell? ⟨h, 0, none⟩ = some (.int .u64 ((7 : Int) + (sm : Int))) := c0
          generalize (w5.alloc (.cells #[.slice (some ⟨h, 0, none⟩) 1 1, .slice (some ⟨g2, 0, none⟩) j j, .slice (some ⟨g3, 0, none⟩) j j, .int .i64 (stp : Int)] 34)) = w6 at *
          generalize w5.heap.size = xb at *
          go_loopw [10, 83] (fun d i wr => ∃ m : Nat, m ≤ j ∧ i = .int .i64 m ∧ d = .int .i64 (count (D.take m)) ∧ wr = w6) (fun _ i _ => j - (intOf i).toNat)
          case atStart => exact ⟨0, Nat.zero_le _, rfl, rfl, rfl⟩
          case round =>
            obtain ⟨m, hm, rfl, rfl, rfl⟩ := hrel
            by_cases hmj : m < j
            · have hmI : (m : Int) < (j : Int) := by omega
              have d0 := HDc.out m (by omega)
              have HCt : Hid (count (D.take (m + 1)) = count (D.take m) + if D[m] then 1 else 0) := count_take D m (by omega)
              have hcl : count (D.take m) ≤ m := by
                have h1 := count_le (D.take m)
                rw [List.length_take] at h1
                omega
              generalize count (D.take m) = cm at *
              cases hb : D[m] with
              | true =>
                rw [hb] at d0
                have HC2 : Hid (count (D.take (m + 1)) = cm + 1) := by have := HCt.out; rw [hb] at this; exact this
                clear hb HCt
                go_wp2_with fail
                go_roundw
                case rel => exact ⟨m + 1, by omega, by go_num, by rw [HC2.out]; go_num, by first | rfl | trivial⟩
                case measure => simp [intOf]; omega
              | false =>
                rw [hb] at d0
                have HC2 : Hid (count (D.take (m + 1)) = cm) := by have := HCt.out; rw [hb] at this; exact this
                clear hb HCt
                go_wp2_with fail
                go_roundw
                case rel => exact ⟨m + 1, by omega, by go_num, by rw [HC2.out], by first | rfl | trivial⟩
                case measure => simp [intOf]; omega
            · have hmI : ¬ (m : Int) < (j : Int) := by omega
              have em : m = j := by omega
              have hct : count (D.take m) ≤ sm := by rw [em, ← hDl, List.take_length]; exact hcD
              have x0 := HX0.out
              generalize count (D.take m) = cm at *
              clear hcD
              go_wp2_with fail
              go_ret
              exact ⟨ret_bool (decide_eq_true (by omega)), HB6.out⟩
end Raise

end Go.Proofs.Ytibgpjokdpagcaa
