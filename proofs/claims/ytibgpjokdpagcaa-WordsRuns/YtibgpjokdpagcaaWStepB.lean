/- The walk of step: from instruction to instruction. -/
import Derived.Test.YtibgpjokdpagcaaWStep
import Derived.Deep.RegionHeld3
namespace Go.Proofs.Ytibgpjokdpagcaa
open Go.RowKit

/-- at the label: how many are left, and what is known -/
def Jf (m cl : Value) (R : Int → World → Prop) (a : Act) (w : World) : Prop := ∃ (k : Int) (f : Nat → Value), R k w ∧ a = { tmps := List.toArray (m :: cl :: undef :: undef :: .int .i64 k :: f 5 :: f 6 :: f 7 :: f 8 :: f 9 :: f 10 :: f 11 :: f 12 :: f 13 :: f 14 :: f 15 :: f 16 :: f 17 :: f 18 :: f 19 :: f 20 :: f 21 :: f 22 :: f 23 :: f 24 :: f 25 :: f 26 :: f 27 :: f 28 :: f 29 :: f 30 :: f 31 :: f 32 :: f 33 :: f 34 :: f 35 :: f 36 :: f 37 :: f 38 :: f 39 :: f 40 :: f 41 :: f 42 :: f 43 :: f 44 :: f 45 :: f 46 :: f 47 :: f 48 :: f 49 :: f 50 :: f 51 :: f 52 :: f 53 :: f 54 :: f 55 :: f 56 :: f 57 :: f 58 :: f 59 :: f 60 :: f 61 :: f 62 :: f 63 :: f 64 :: f 65 :: f 66 :: f 67 :: f 68 :: f 69 :: f 70 :: f 71 :: f 72 :: f 73 :: f 74 :: f 75 :: f 76 :: f 77 :: f 78 :: f 79 :: f 80 :: f 81 :: f 82 :: f 83 :: f 84 :: f 85 :: f 86 :: f 87 :: f 88 :: f 89 :: f 90 :: f 91 :: f 92 :: f 93 :: f 94 :: f 95 :: f 96 :: f 97 :: f 98 :: f 99 :: f 100 :: f 101 :: f 102 :: f 103 :: f 104 :: f 105 :: f 106 :: f 107 :: f 108 :: f 109 :: f 110 :: f 111 :: f 112 :: f 113 :: f 114 :: f 115 :: f 116 :: f 117 :: f 118 :: f 119 :: f 120 :: f 121 :: f 122 :: f 123 :: f 124 :: f 125 :: f 126 :: f 127 :: f 128 :: f 129 :: f 130 :: f 131 :: f 132 :: f 133 :: f 134 :: f 135 :: f 136 :: f 137 :: f 138 :: f 139 :: f 140 :: []), defers := [] }

theorem Jf.mk {m cl : Value} {R : Int → World → Prop} {w : World} {k : Int} {u5 u6 u7 u8 u9 u10 u11 u12 u13 u14 u15 u16 u17 u18 u19 u20 u21 u22 u23 u24 u25 u26 u27 u28 u29 u30 u31 u32 u33 u34 u35 u36 u37 u38 u39 u40 u41 u42 u43 u44 u45 u46 u47 u48 u49 u50 u51 u52 u53 u54 u55 u56 u57 u58 u59 u60 u61 u62 u63 u64 u65 u66 u67 u68 u69 u70 u71 u72 u73 u74 u75 u76 u77 u78 u79 u80 u81 u82 u83 u84 u85 u86 u87 u88 u89 u90 u91 u92 u93 u94 u95 u96 u97 u98 u99 u100 u101 u102 u103 u104 u105 u106 u107 u108 u109 u110 u111 u112 u113 u114 u115 u116 u117 u118 u119 u120 u121 u122 u123 u124 u125 u126 u127 u128 u129 u130 u131 u132 u133 u134 u135 u136 u137 u138 u139 u140 : Value} (h : R k w) : Jf m cl R { tmps := List.toArray (m :: cl :: undef :: undef :: .int .i64 k :: u5 :: u6 :: u7 :: u8 :: u9 :: u10 :: u11 :: u12 :: u13 :: u14 :: u15 :: u16 :: u17 :: u18 :: u19 :: u20 :: u21 :: u22 :: u23 :: u24 :: u25 :: u26 :: u27 :: u28 :: u29 :: u30 :: u31 :: u32 :: u33 :: u34 :: u35 :: u36 :: u37 :: u38 :: u39 :: u40 :: u41 :: u42 :: u43 :: u44 :: u45 :: u46 :: u47 :: u48 :: u49 :: u50 :: u51 :: u52 :: u53 :: u54 :: u55 :: u56 :: u57 :: u58 :: u59 :: u60 :: u61 :: u62 :: u63 :: u64 :: u65 :: u66 :: u67 :: u68 :: u69 :: u70 :: u71 :: u72 :: u73 :: u74 :: u75 :: u76 :: u77 :: u78 :: u79 :: u80 :: u81 :: u82 :: u83 :: u84 :: u85 :: u86 :: u87 :: u88 :: u89 :: u90 :: u91 :: u92 :: u93 :: u94 :: u95 :: u96 :: u97 :: u98 :: u99 :: u100 :: u101 :: u102 :: u103 :: u104 :: u105 :: u106 :: u107 :: u108 :: u109 :: u110 :: u111 :: u112 :: u113 :: u114 :: u115 :: u116 :: u117 :: u118 :: u119 :: u120 :: u121 :: u122 :: u123 :: u124 :: u125 :: u126 :: u127 :: u128 :: u129 :: u130 :: u131 :: u132 :: u133 :: u134 :: u135 :: u136 :: u137 :: u138 :: u139 :: u140 :: []), defers := [] } w :=
  ⟨k, fun i => (u5 :: u6 :: u7 :: u8 :: u9 :: u10 :: u11 :: u12 :: u13 :: u14 :: u15 :: u16 :: u17 :: u18 :: u19 :: u20 :: u21 :: u22 :: u23 :: u24 :: u25 :: u26 :: u27 :: u28 :: u29 :: u30 :: u31 :: u32 :: u33 :: u34 :: u35 :: u36 :: u37 :: u38 :: u39 :: u40 :: u41 :: u42 :: u43 :: u44 :: u45 :: u46 :: u47 :: u48 :: u49 :: u50 :: u51 :: u52 :: u53 :: u54 :: u55 :: u56 :: u57 :: u58 :: u59 :: u60 :: u61 :: u62 :: u63 :: u64 :: u65 :: u66 :: u67 :: u68 :: u69 :: u70 :: u71 :: u72 :: u73 :: u74 :: u75 :: u76 :: u77 :: u78 :: u79 :: u80 :: u81 :: u82 :: u83 :: u84 :: u85 :: u86 :: u87 :: u88 :: u89 :: u90 :: u91 :: u92 :: u93 :: u94 :: u95 :: u96 :: u97 :: u98 :: u99 :: u100 :: u101 :: u102 :: u103 :: u104 :: u105 :: u106 :: u107 :: u108 :: u109 :: u110 :: u111 :: u112 :: u113 :: u114 :: u115 :: u116 :: u117 :: u118 :: u119 :: u120 :: u121 :: u122 :: u123 :: u124 :: u125 :: u126 :: u127 :: u128 :: u129 :: u130 :: u131 :: u132 :: u133 :: u134 :: u135 :: u136 :: u137 :: u138 :: u139 :: u140 :: [] : List Value).getD (i - 5) undef, h, rfl⟩


/-- what is known at the label -/
structure Rl (w0 : World) (g h : Nat) (G : List Mg) (t o : Nat) (v : Value) (L : List InsV) (n : Nat) (s0 : St) (j : Nat) (s : St) (w : World) : Prop where
  loc : Loc w0 w g h G t o v s
  ok : s.Ok L n
  go : St.go L j s = St.go L 64 s0

theorem go_none {L : List InsV} {j : Nat} {s : St} (h : L.length ≤ s.p) : St.go L j s = s := by
  cases j with
  | zero => rfl
  | succ j => rw [St.go, List.getElem?_eq_none h]
theorem go_some {L : List InsV} {j : Nat} {s : St} {x : InsV} (h : L[s.p]? = some x) : St.go L (j + 1) s = if (s.one L.length x).2 then (s.one L.length x).1 else St.go L j (s.one L.length x).1 := by
  rw [St.go, h]

section
variable {w0 w w' : World} {g h : Nat} {G : List Mg} {t o : Nat} {v : Value} {L : List InsV} {n : Nat} {s0 s s' : St} {j : Nat} {x : InsV}
theorem Rl.next (hR : Rl w0 g h G t o v L n s0 (j + 1) s w) (hT : TaskOk L n) (hI : L[s.p]? = some x) (he : s.one L.length x = (s', false)) (hl : Loc w0 w' g h G t o v s') : Rl w0 g h G t o v L n s0 j s' w' := by
  have hp := (List.getElem?_eq_some_iff.1 hI).1
  have h1 := hR.ok.one hp (hT.all x (List.mem_of_getElem? hI))
  have h2 := hR.go
  rw [go_some hI] at h2
  rw [he] at h1 h2
  exact ⟨hl, h1, h2⟩
theorem Rl.last (hR : Rl w0 g h G t o v L n s0 (j + 1) s w) (hI : L[s.p]? = some x) (he : s.one L.length x = (s', true)) (hl : Loc w0 w' g h G t o v s') : Loc w0 w' g h G t o v (St.go L 64 s0) := by
  have h2 := hR.go
  rw [go_some hI] at h2
  rw [he] at h2
  rw [← h2]
  exact hl
theorem one_jump {len i k : Nat} {ib : Int} (hz : s.r.getD i 0 = 0) : s.one len ⟨7, (i : Int), ib, (k : Int)⟩ = (⟨s.r, k, s.c⟩, false) := by
  show ((⟨s.r, if s.r.getD i 0 = 0 then k else s.p + 1, s.c⟩ : St), false) = _
  rw [if_pos hz]
theorem one_stay {len i k : Nat} {ib : Int} (hz : ¬ s.r.getD i 0 = 0) : s.one len ⟨7, (i : Int), ib, (k : Int)⟩ = (⟨s.r, s.p + 1, s.c⟩, false) := by
  show ((⟨s.r, if s.r.getD i 0 = 0 then k else s.p + 1, s.c⟩ : St), false) = _
  rw [if_neg hz]
theorem one_swap {len i ib k : Nat} : s.one len ⟨6, (i : Int), (ib : Int), (k : Int)⟩ = (if s.c.getD k 0 = s.r.getD i 0 then (⟨s.r.set i 1, s.p + 1, s.c.set k (s.r.getD ib 0)⟩ : St) else ⟨s.r.set i 0, s.p + 1, s.c⟩, true) := by
  show (if s.c.getD k 0 = s.r.getD i 0 then ((⟨s.r.set i 1, s.p + 1, s.c.set k (s.r.getD ib 0)⟩ : St), true) else (⟨s.r.set i 0, s.p + 1, s.c⟩, true)) = _
  split
  · rfl
  · rfl
end

set_option maxRecDepth 100000 in
set_option maxHeartbeats 4000000 in
theorem step_any {wb w0 : World} {g h : Nat} {G : List Mg} {t o : Nat} {a0 : Option Addr} {c0 : Nat} {L : List InsV} {s0 : St} {n : Nat}
    (hcode : SliceAt wb (.slice a0 L.length c0) 4 InsV.en L) (hb : Below wb.heap.size wb w0) (hg : wb.heap.size ≤ g) (hh : wb.heap.size ≤ h)
    (hL : Loc w0 w0 g h G t o (.slice a0 L.length c0) s0) (hok : s0.Ok L n) (hT : TaskOk L n) (_hn : n ≤ 4096) :
    Calls Try.prog 26 #[.pointer (some ⟨g, o, none⟩), .slice (some ⟨h, 0, none⟩) n n] w0 fun e w' => e = .returned (.tuple #[]) ∧ Loc w0 w' g h G t o (.slice a0 L.length c0) (St.go L 64 s0) := by
  obtain ⟨a1, c1, he, hl, hc, hx⟩ := hcode
  cases he
  have HX : Hid (L ≠ [] → ∃ b off, a0 = some ⟨b, off, none⟩ ∧ b < wb.heap.size ∧ ∀ i, (h : i < L.length) → ∀ (j : Nat) (u : Value), (InsV.en L[i])[j]? = some u → wb.cell? ⟨b, off + i * 4 + j, none⟩ = some u) := hx
  have HT : Hid (TaskOk L n) := hT
  have hlen := hT.len
  have HB : Hid (Below wb.heap.size wb w0) := hb
  have HL0 : Hid (Rl w0 g h G t o (.slice a0 L.length c0) L n s0 64 s0 w0) := ⟨hL, hok, rfl⟩
  unfold maxLen at hc
  clear hx hT hb hL hok
  go_enter Try.func26, Try.ntmps26
  go_wp2
  refine scope_jumps 0 (Jf (.pointer (some ⟨g, o, none⟩)) (.slice (some ⟨h, 0, none⟩) n n) (fun k w => ∃ (j : Nat) (s : St), k = j ∧ j ≤ 64 ∧ Rl w0 g h G t o (.slice a0 L.length c0) L n s0 j s w)) (fun a _ => (intOf (a.tmps.getD 4 undef)).toNat) rfl ?_ ?_
  · intro Q' hq
    go_wp2
    go_step3
    rename_i K hK
    exact hK _ _ (hq _ _ (Jf.mk ⟨64, s0, rfl, Nat.le_refl _, HL0.out⟩))
  · rintro a w ⟨_, f, ⟨j, s, rfl, hj, hR⟩, rfl⟩
    have HR : Hid (Rl w0 g h G t o (.slice a0 L.length c0) L n s0 j s w) := hR
    clear hR HL0
    rcases j with _ | j
    · go_wp2_with fail
      simp only [Exit.jump]
      go_returns
      exact ⟨rfl, by have := HR.out.go; rw [show St.go L 0 s = s from rfl] at this; rw [← this]; exact HR.out.loc⟩
    have c1 := HR.out.loc.code
    have c2 := HR.out.loc.place
    have hj0 : (((j + 1 : Nat) : Int) == 0) = false := by rw [beq_eq_false_iff_ne]; omega
    by_cases hst : L.length ≤ s.p
    · have hd : decide (L.length ≤ s.p) = true := decide_eq_true hst
      go_wp2_with fail
      refine (stopped_any g o a0 L.length c0 s.p w c1 c2).mono ?_
      rintro e w1 ⟨rfl, m, rfl⟩
      rw [hd]
      go_wp2_with fail
      simp only [Exit.jump]
      go_returns
      exact ⟨rfl, by have := HR.out.go; rw [go_none hst] at this; rw [← this]; exact HR.out.loc.below (below_drewN w m)⟩
    · have hd : decide (L.length ≤ s.p) = false := decide_eq_false hst
      go_wp2_with fail
      refine (stopped_any g o a0 L.length c0 s.p w c1 c2).mono ?_
      rintro e w1 ⟨rfl, m, rfl⟩
      rw [hd]
      have hp : s.p < L.length := by omega
      obtain ⟨x, hxe⟩ : ∃ x, L[s.p] = x := ⟨_, rfl⟩
      obtain ⟨b, off, rfl, hbl, hcs⟩ := HX.out (by intro e; rw [e] at hp; simp at hp)
      have HL1 : Hid (Loc w0 (w.drewN m) g h G t o (.slice (some ⟨b, off, none⟩) L.length c0) s) := HR.out.loc.below (below_drewN w m)
      have hbe : Below wb.heap.size wb (w.drewN m) := HB.out.trans ((HL1.out.turn.mono (S' := fun i => wb.heap.size ≤ i) (by rintro i (rfl | rfl) <;> assumption)).toBelow HB.out.size)
      have q := hcs s.p hp
      rw [hxe] at q
      have HI : Hid (L[s.p]? = some x) := by rw [List.getElem?_eq_getElem hp, hxe]; exact rfl
      generalize w.drewN m = w1 at HL1 hbe ⊢
      have p0 := (hbe.cell (p := ⟨b, off + s.p * 4, none⟩) hbl).trans (q 0 _ rfl)
      have p1 := (hbe.cell (p := ⟨b, off + s.p * 4 + 1, none⟩) hbl).trans (q 1 _ rfl)
      have p2 := (hbe.cell (p := ⟨b, off + s.p * 4 + 2, none⟩) hbl).trans (q 2 _ rfl)
      have p3 := (hbe.cell (p := ⟨b, off + s.p * 4 + 3, none⟩) hbl).trans (q 3 _ rfl)
      have hgl : g < w1.heap.size := HL1.out.room.lt.1
      have hhl : h < w1.heap.size := HL1.out.room.lt.2
      have hbl1 : b < w1.heap.size := Nat.lt_of_lt_of_le hbl hbe.size
      have d1 := HL1.out.code
      have d2 := HL1.out.place
      obtain ⟨hr1, hr2⟩ : x.regs ∧ x.num L.length n := HT.out.all x (hxe ▸ List.getElem_mem hp)
      have HN : Hid (x.num L.length n) := hr2
      obtain ⟨xk, xa, xb, xn⟩ := x
      obtain ⟨ra1, ra2, rb1, rb2⟩ := hr1
      dsimp only at ra1 ra2 rb1 rb2 p0 p1 p2 p3
      obtain ⟨i, rfl⟩ := Int.eq_ofNat_of_zero_le ra1
      obtain ⟨ib, rfl⟩ := Int.eq_ofNat_of_zero_le rb1
      have hi : i < 8 := by omega
      have hib : ib < 8 := by omega
      have hw1 : IntKind.i64.wrap (((j + 1 : Nat) : Int) - 1) = (j : Int) := by rw [IntKind.wrap_i64]; omega
      clear hcs q hbe hxe hr2 c1 c2 hst hd HX hj0 ra1 rb1 ra2 rb2
      go_wp2_with fail
      go_region
      have HL2 : Hid (Loc w0 (w1.alloc (.cells #[.int .i64 xk, .int .i64 (i : Int), .int .i64 (ib : Int), .int .i64 xn] 53 (0, 0))).drew g h G t o (.slice (some ⟨b, off, none⟩) L.length c0) s) :=
        HL1.out.below (((Below.refl _ _).alloc (Nat.le_refl _) _).drew)
      have hin : (w1.alloc (.cells #[.int .i64 xk, .int .i64 (i : Int), .int .i64 (ib : Int), .int .i64 xn] 53 (0, 0))).drew.heap[w1.heap.size]? = some (.cells #[.int .i64 xk, .int .i64 (i : Int), .int .i64 (ib : Int), .int .i64 xn] 53 (0, 0)) := heap_new w1 _
      obtain ⟨pb, hpb⟩ : ∃ pb, w1.heap.size = pb := ⟨_, rfl⟩
      rw [hpb] at hin hgl hhl ⊢
      generalize (w1.alloc (.cells #[.int .i64 xk, .int .i64 (i : Int), .int .i64 (ib : Int), .int .i64 xn] 53 (0, 0))).drew = w2 at HL2 hin ⊢
      have d3 := HL2.out.place
      have d4 := HL2.out.frozen (o + 9)
      have HL3 : Hid (Loc w0 (w2.setCell ⟨g, o + 9, none⟩ (.int .i64 ((s.p : Int) + 1))) g h G t o (.slice (some ⟨b, off, none⟩) L.length c0) ⟨s.r, s.p + 1, s.c⟩) := HL2.out.setPlace (s.p + 1)
      have hin3 : (w2.setCell ⟨g, o + 9, none⟩ (.int .i64 ((s.p : Int) + 1))).heap[pb]? = some (.cells #[.int .i64 xk, .int .i64 (i : Int), .int .i64 (ib : Int), .int .i64 xn] 53 (0, 0)) :=
        ((Turn.setCell (S := fun k => k = g) w2 ⟨g, o + 9, none⟩ (.int .i64 ((s.p : Int) + 1)) rfl).block pb (lt_of hin) (by omega)).trans hin
      have e0 : (w2.setCell ⟨g, o + 9, none⟩ (.int .i64 ((s.p : Int) + 1))).cell? ⟨pb, 0, none⟩ = some (.int .i64 xk) := by rw [cell_of hin3]; rfl
      have e1 : (w2.setCell ⟨g, o + 9, none⟩ (.int .i64 ((s.p : Int) + 1))).cell? ⟨pb, 1, none⟩ = some (.int .i64 (i : Int)) := by rw [cell_of hin3]; rfl
      have e2 : (w2.setCell ⟨g, o + 9, none⟩ (.int .i64 ((s.p : Int) + 1))).cell? ⟨pb, 2, none⟩ = some (.int .i64 (ib : Int)) := by rw [cell_of hin3]; rfl
      have e3 : (w2.setCell ⟨g, o + 9, none⟩ (.int .i64 ((s.p : Int) + 1))).cell? ⟨pb, 3, none⟩ = some (.int .i64 xn) := by rw [cell_of hin3]; rfl
      have hk : xk = 1 ∨ xk = 2 ∨ xk = 3 ∨ xk = 7 ∨ xk = 4 ∨ xk = 5 ∨ xk = 6 ∨ xk = 8 := by
        have h := HN.out
        unfold InsV.num at h
        dsimp only at h
        split at h
        · omega
        · split at h
          · omega
          · split at h
            · omega
            · exact h.elim
      clear p0 p1 p2 p3 d1 d2 hin hpb hbl1 hw1 HL1 HB
      rcases hk with rfl | rfl | rfl | rfl | rfl | rfl | rfl | rfl
      · go_wp2_with fail
        generalize w2.setCell ⟨g, o + 9, none⟩ (.int .i64 ((s.p : Int) + 1)) = w3 at HL3 e0 e1 e2 e3 ⊢
        have r1 := HL3.out.reg hi
        dsimp only at r1
        generalize s.r.getD i 0 = zz at r1
        have r2 := HL3.out.frozen (o + 1 + i)
        clear d3 d4 HL2 e0
        go_region
        have HL4 : Hid (Loc w0 (w3.setCell ⟨g, o + 1 + i, none⟩ (.int .u64 (IntKind.u64.wrap xn))).drew g h G t o (.slice (some ⟨b, off, none⟩) L.length c0) ⟨s.r.set i (xn % two64), s.p + 1, s.c⟩) := by
          have h4 := (HL3.out.setReg hi (IntKind.u64.wrap xn)).below ((Below.refl _ _).drew)
          rw [IntKind.wrap_u64] at h4 ⊢
          exact h4
        generalize (w3.setCell ⟨g, o + 1 + i, none⟩ (.int .u64 (IntKind.u64.wrap xn))).drew = w4 at HL4 ⊢
        go_wp2_with fail
        go_step3
        exact ⟨rfl, Jf.mk ⟨j, _, rfl, by omega, HR.out.next HT.out HI.out rfl HL4.out⟩, by simp [intOf]⟩
      · go_wp2_with fail
        generalize w2.setCell ⟨g, o + 9, none⟩ (.int .i64 ((s.p : Int) + 1)) = w3 at HL3 e0 e1 e2 e3 ⊢
        have r1 := HL3.out.reg hi
        dsimp only at r1
        generalize s.r.getD i 0 = zz at r1
        have r2 := HL3.out.frozen (o + 1 + i)
        have r3 := HL3.out.reg hib
        dsimp only at r3
        obtain ⟨y, hy⟩ : ∃ y, s.r.getD ib 0 = y := ⟨_, rfl⟩
        rw [hy] at r3
        have HY : Hid (s.r.getD ib 0 = y) := hy
        clear hy
        clear d3 d4 HL2 e0
        go_region
        have HL4 : Hid (Loc w0 (w3.setCell ⟨g, o + 1 + i, none⟩ (.int .u64 y)).drew g h G t o (.slice (some ⟨b, off, none⟩) L.length c0) ⟨s.r.set i (s.r.getD ib 0), s.p + 1, s.c⟩) := by
          have h4 := (HL3.out.setReg hi y).below ((Below.refl _ _).drew)
          rw [HY.out]
          exact h4
        generalize (w3.setCell ⟨g, o + 1 + i, none⟩ (.int .u64 y)).drew = w4 at HL4 ⊢
        go_wp2_with fail
        go_step3
        exact ⟨rfl, Jf.mk ⟨j, _, rfl, by omega, HR.out.next HT.out HI.out rfl HL4.out⟩, by simp [intOf]⟩
      · go_wp2_with fail
        generalize w2.setCell ⟨g, o + 9, none⟩ (.int .i64 ((s.p : Int) + 1)) = w3 at HL3 e0 e1 e2 e3 ⊢
        have r1 := HL3.out.reg hi
        dsimp only at r1
        generalize s.r.getD i 0 = zz at r1
        have r2 := HL3.out.frozen (o + 1 + i)
        have r3 := HL3.out.reg hib
        dsimp only at r3
        obtain ⟨y, hy⟩ : ∃ y, s.r.getD ib 0 = y := ⟨_, rfl⟩
        rw [hy] at r3
        have HY : Hid (s.r.getD ib 0 = y) := hy
        clear hy
        clear d3 d4 HL2 e0
        go_region
        have HL4 : Hid (Loc w0 (w3.setCell ⟨g, o + 1 + i, none⟩ (.int .u64 (IntKind.u64.wrap (y + IntKind.u64.wrap xn)))).drew g h G t o (.slice (some ⟨b, off, none⟩) L.length c0) ⟨s.r.set i ((s.r.getD ib 0 + xn) % two64), s.p + 1, s.c⟩) := by
          have h4 := (HL3.out.setReg hi (IntKind.u64.wrap (y + IntKind.u64.wrap xn))).below ((Below.refl _ _).drew)
          rw [show IntKind.u64.wrap (y + IntKind.u64.wrap xn) = (s.r.getD ib 0 + xn) % two64 from by rw [HY.out, IntKind.wrap_u64, IntKind.wrap_u64, Int.add_emod_emod]] at h4 ⊢
          exact h4
        generalize (w3.setCell ⟨g, o + 1 + i, none⟩ (.int .u64 (IntKind.u64.wrap (y + IntKind.u64.wrap xn)))).drew = w4 at HL4 ⊢
        go_wp2_with fail
        go_step3
        exact ⟨rfl, Jf.mk ⟨j, _, rfl, by omega, HR.out.next HT.out HI.out rfl HL4.out⟩, by simp [intOf]⟩
      · obtain ⟨kn0, kn1⟩ : 0 ≤ xn ∧ xn ≤ L.length := HN.out
        obtain ⟨k, rfl⟩ := Int.eq_ofNat_of_zero_le kn0
        by_cases hz : s.r.getD i 0 = 0
        · have r1 := HL3.out.reg hi
          dsimp only at r1
          rw [hz] at r1
          go_wp2_with fail
          generalize w2.setCell ⟨g, o + 9, none⟩ (.int .i64 ((s.p : Int) + 1)) = w3 at HL3 e0 e1 e2 e3 r1 ⊢
          clear d3 d4 HL2 e0
          go_quiet (fail)
          have HL4 : Hid (Loc w0 (w3.drewN nq) g h G t o (.slice (some ⟨b, off, none⟩) L.length c0) ⟨s.r, s.p + 1, s.c⟩) := HL3.out.below (below_drewN w3 nq)
          have q3 : (w3.drewN nq).cell? ⟨pb, 3, none⟩ = some (.int .i64 (k : Int)) := e3
          generalize w3.drewN nq = w4 at HL4 q3 ⊢
          have q1 := HL4.out.place
          have q2 := HL4.out.frozen (o + 9)
          go_wp2_with fail
          go_step3
          exact ⟨rfl, Jf.mk ⟨j, _, rfl, by omega, HR.out.next HT.out HI.out (s' := ⟨s.r, k, s.c⟩) (one_jump hz) (HL4.out.setPlace k)⟩, by simp [intOf]⟩
        · have r1 := HL3.out.reg hi
          dsimp only at r1
          obtain ⟨z, hze⟩ : ∃ z, s.r.getD i 0 = z := ⟨_, rfl⟩
          rw [hze] at r1
          have hzb : (z == 0) = false := by rw [beq_eq_false_iff_ne, ← hze]; exact hz
          clear hze
          go_wp2_with fail
          generalize w2.setCell ⟨g, o + 9, none⟩ (.int .i64 ((s.p : Int) + 1)) = w3 at HL3 e0 e1 e2 e3 r1 ⊢
          clear d3 d4 HL2 e0
          go_quiet (fail)
          have HL4 : Hid (Loc w0 (w3.drewN nq) g h G t o (.slice (some ⟨b, off, none⟩) L.length c0) ⟨s.r, s.p + 1, s.c⟩) := HL3.out.below (below_drewN w3 nq)
          go_wp2_with fail
          go_step3
          exact ⟨rfl, Jf.mk ⟨j, _, rfl, by omega, HR.out.next HT.out HI.out (s' := ⟨s.r, s.p + 1, s.c⟩) (one_stay hz) HL4.out⟩, by simp [intOf]⟩
      · obtain ⟨kn0, kn1⟩ : 0 ≤ xn ∧ xn < n := HN.out
        obtain ⟨k, rfl⟩ := Int.eq_ofNat_of_zero_le kn0
        have hkn : k < s.c.length := by rw [HR.out.ok.cn]; omega
        go_wp2_with fail
        generalize w2.setCell ⟨g, o + 9, none⟩ (.int .i64 ((s.p : Int) + 1)) = w3 at HL3 e0 e1 e2 e3 ⊢
        have r1 := HL3.out.reg hi
        dsimp only at r1
        generalize s.r.getD i 0 = zz at r1
        have r2 := HL3.out.frozen (o + 1 + i)
        have r3 := HL3.out.cell hkn
        dsimp only at r3
        obtain ⟨y, hy⟩ : ∃ y, s.c.getD k 0 = y := ⟨_, rfl⟩
        rw [hy] at r3
        have HY : Hid (s.c.getD k 0 = y) := hy
        clear hy
        clear d3 d4 HL2 e0
        go_region
        have HL4 : Hid (Loc w0 (w3.setCell ⟨g, o + 1 + i, none⟩ (.int .u64 y)).drew g h G t o (.slice (some ⟨b, off, none⟩) L.length c0) ⟨s.r.set i (s.c.getD k 0), s.p + 1, s.c⟩) := by
          have h4 := (HL3.out.setReg hi y).below ((Below.refl _ _).drew)
          rw [HY.out]
          exact h4
        generalize (w3.setCell ⟨g, o + 1 + i, none⟩ (.int .u64 y)).drew = w4 at HL4 ⊢
        go_wp2_with fail
        simp only [Exit.jump]
        go_returns
        exact ⟨rfl, HR.out.last HI.out rfl HL4.out⟩
      · obtain ⟨kn0, kn1⟩ : 0 ≤ xn ∧ xn < n := HN.out
        obtain ⟨k, rfl⟩ := Int.eq_ofNat_of_zero_le kn0
        have hkn : k < s.c.length := by rw [HR.out.ok.cn]; omega
        go_wp2_with fail
        generalize w2.setCell ⟨g, o + 9, none⟩ (.int .i64 ((s.p : Int) + 1)) = w3 at HL3 e0 e1 e2 e3 ⊢
        have r1 := HL3.out.reg hi
        dsimp only at r1
        obtain ⟨y, hy⟩ : ∃ y, s.r.getD i 0 = y := ⟨_, rfl⟩
        rw [hy] at r1
        have HY : Hid (s.r.getD i 0 = y) := hy
        clear hy
        have r2 := HL3.out.frozenC k
        have r3 := HL3.out.cell hkn
        dsimp only at r3
        generalize s.c.getD k 0 = zz at r3
        clear d3 d4 HL2 e0
        go_region
        have HL4 : Hid (Loc w0 (w3.setCell ⟨h, k, none⟩ (.int .u64 y)).drew g h G t o (.slice (some ⟨b, off, none⟩) L.length c0) ⟨s.r, s.p + 1, s.c.set k (s.r.getD i 0)⟩) := by
          have h4 := (HL3.out.setCel k y).below ((Below.refl _ _).drew)
          rw [HY.out]
          exact h4
        generalize (w3.setCell ⟨h, k, none⟩ (.int .u64 y)).drew = w4 at HL4 ⊢
        go_wp2_with fail
        simp only [Exit.jump]
        go_returns
        exact ⟨rfl, HR.out.last HI.out rfl HL4.out⟩
      · obtain ⟨kn0, kn1⟩ : 0 ≤ xn ∧ xn < n := HN.out
        obtain ⟨k, rfl⟩ := Int.eq_ofNat_of_zero_le kn0
        have hkn : k < s.c.length := by rw [HR.out.ok.cn]; omega
        go_wp2_with fail
        generalize w2.setCell ⟨g, o + 9, none⟩ (.int .i64 ((s.p : Int) + 1)) = w3 at HL3 e0 e1 e2 e3 hin3 ⊢
        have HS : Hid (∀ W m, W = w3.drewN m → Calls Try.prog 32 #[.pointer (some ⟨g, o, none⟩), .pointer (some ⟨h, k, none⟩), .int .i64 (i : Int), .int .i64 (ib : Int)] W fun e w' => e = .returned (.tuple #[]) ∧
            Loc w0 w' g h G t o (.slice (some ⟨b, off, none⟩) L.length c0) (if s.c.getD k 0 = s.r.getD i 0 then ⟨s.r.set i 1, s.p + 1, s.c.set k (s.r.getD ib 0)⟩ else ⟨s.r.set i 0, s.p + 1, s.c⟩) ∧ w'.cell? ⟨pb, 1, none⟩ = some (.int .i64 (i : Int)) ∧ w'.cell? ⟨pb, 2, none⟩ = some (.int .i64 (ib : Int)) ∧ w'.cell? ⟨pb, 3, none⟩ = some (.int .i64 (k : Int))) := by
          rintro W m rfl
          refine (swap_any (HL3.out.below (below_drewN w3 m)) hkn hi hib).mono ?_
          rintro e w' ⟨rfl, h1, h2⟩
          have h3 : w'.heap[pb]? = some (.cells #[.int .i64 6, .int .i64 (i : Int), .int .i64 (ib : Int), .int .i64 (k : Int)] 53 (0, 0)) := (h2.block pb (lt_of hin3) (by omega)).trans hin3
          exact ⟨rfl, h1, by rw [cell_of h3]; rfl, by rw [cell_of h3]; rfl, by rw [cell_of h3]; rfl⟩
        clear d3 d4 HL2 e0 hin3
        go_region_held3 (fun w' => w'.cell? ⟨pb, 1, none⟩ = some (.int .i64 (i : Int)) ∧ w'.cell? ⟨pb, 2, none⟩ = some (.int .i64 (ib : Int)) ∧ w'.cell? ⟨pb, 3, none⟩ = some (.int .i64 (k : Int))) (go_keep)
          (first
            | (go_at_call 32; refine (HS.out _ 1 rfl).mono ?_; rintro e w4 ⟨rfl, hG, g1, g2, g3⟩))
        all_goals go_wp2_with fail
        all_goals simp only [Exit.jump]
        all_goals go_returns
        all_goals exact ⟨rfl, HR.out.last HI.out one_swap hG⟩
      · have r0 := HL3.out.code
        have r1 := HL3.out.place
        have r2 := HL3.out.frozen (o + 9)
        go_wp2_with fail
        simp only [Exit.jump]
        go_returns
        exact ⟨rfl, HR.out.last HI.out rfl (HL3.out.setPlace L.length)⟩

end Go.Proofs.Ytibgpjokdpagcaa
