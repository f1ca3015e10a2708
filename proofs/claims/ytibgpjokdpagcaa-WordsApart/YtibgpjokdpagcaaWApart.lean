/- The walk of WordsApart. -/
import Derived.Test.YtibgpjokdpagcaaWOver
import Derived.Deep.AppendLies
import Derived.Test.YtibgpjokdpagcaaWEq
namespace Go.Proofs.Ytibgpjokdpagcaa
open Go.RowKit

namespace Apart
abbrev ei (x : Int) : List Value := [Value.int .i64 x]

/-- three rows of numbers, apart -/
structure Tri (u0 wr : World) (a b c : Value) (P F G : List Int) : Prop where
  o1 : wr.ownsRow u0.heap.size 3 1 a P.length (flat ei P)
  o2 : wr.ownsRow u0.heap.size 3 1 b F.length (flat ei F)
  o3 : wr.ownsRow u0.heap.size 3 1 c G.length (flat ei G)
  n12 : ∀ i, a.ownBlock = some i → b.ownBlock ≠ some i
  n13 : ∀ i, a.ownBlock = some i → c.ownBlock ≠ some i
  n23 : ∀ i, b.ownBlock = some i → c.ownBlock ≠ some i
  below : Below u0.heap.size u0 wr

theorem Tri.rot {u0 wr : World} {a b c : Value} {P F G : List Int} (h : Tri u0 wr a b c P F G) : Tri u0 wr b c a F G P :=
  ⟨h.o2, h.o3, h.o1, h.n23, fun i h1 h2 => h.n12 i h2 h1, fun i h1 h2 => h.n13 i h2 h1, h.below⟩

theorem Tri.app {u0 wr w' : World} {a b c : Value} {P F G : List Int} (h : Tri u0 wr a b c P F G) {q : Int} {o : Obj} {g k n : Nat} (hown : w'.ownsRow u0.heap.size 3 1 (.slice (some ⟨g, 0, none⟩) n k) (P.length + 1) (flat ei P ++ [.int .i64 q])) (hg : (wr.alloc o).grownBy w' a.ownBlock) (hv : a.ownBlock = some g ∨ g = wr.heap.size + 1) : Tri u0 w' (.slice (some ⟨g, 0, none⟩) n k) b c (P ++ [q]) F G := by
  have hlt2 := h.o2.lt
  have hlt3 := h.o3.lt
  have hnew : ∀ (d : Value), (∀ i, d.ownBlock = some i → i < wr.heap.size) → (∀ i, a.ownBlock = some i → d.ownBlock ≠ some i) → ∀ i, Value.ownBlock (.slice (some ⟨g, 0, none⟩) n k) = some i → d.ownBlock ≠ some i := by
    intro d hd hne i hi hdi
    have e : g = i := by simpa [Value.ownBlock] using hi
    subst e
    rcases hv with hv | hv
    · exact hne g hv hdi
    · have := hd g hdi
      omega
  have hkeep : ∀ {d : Value} {m : Nat} {xs : List Value}, wr.ownsRow u0.heap.size 3 1 d m xs → (∀ i, a.ownBlock = some i → d.ownBlock ≠ some i) → w'.ownsRow u0.heap.size 3 1 d m xs := by
    intro d m xs hd hne
    refine ownsRow_block (hd.alloc o) (fun i hi => ?_)
    have hl := (hd.lt i hi).2
    exact hg.block i (by simp; omega) (fun e => hne i e.symm hi)
  exact ⟨by rw [List.length_append, flat_append]; exact hown, hkeep h.o2 h.n12, hkeep h.o3 h.n13, hnew b (fun i hi => (hlt2 i hi).2) h.n12, hnew c (fun i hi => (hlt3 i hi).2) h.n13, h.n23,
    (h.below.alloc h.below.size _).grown hg (by simp; have := h.below.size; omega) (fun i hi => (h.o1.lt i hi).1)⟩

theorem two_nat (x : Int) : wrap64 ((IntKind.u64.wrap x).tmod 2) = 0 ∨ wrap64 ((IntKind.u64.wrap x).tmod 2) = 1 := by
  have h0 : 0 ≤ IntKind.u64.wrap x := by rw [IntKind.wrap_u64]; exact Int.emod_nonneg _ (by decide)
  have h1 := Int.tmod_nonneg 2 h0
  have h2 := Int.tmod_lt_of_pos (IntKind.u64.wrap x) (show (0 : Int) < 2 by decide)
  unfold wrap64
  omega

/-- what the law knows from pick to pick -/
structure St3 (u0 wr : World) (a b c : Value) (A B : List InsV) (n : Nat) : Prop where
  ex : ∃ P F G, Tri u0 wr a b c P F G ∧ P.length = n ∧ F.length ≤ n ∧ G.length ≤ n ∧ (∀ q ∈ P, 0 ≤ q ∧ q < 2) ∧ (∀ q ∈ F, q = 0) ∧ (∀ q ∈ G, q = 0) ∧ Rel ((Sys.start [A, B] [3, 4]).run [A, B] P) ((Sys.start [A] [3, 4]).run [A] F) ((Sys.start [B] [3, 4]).run [B] G)

theorem noE {T : List (List InsV)} (hT : ∀ L ∈ T, TaskOk L 2) (hl : T.length ≤ 4096) {qs : List Int} (hq : qs.length ≤ 300) (ha : ∀ q ∈ qs, 0 ≤ q ∧ q < T.length) : runE T 2 qs = 0 := by
  unfold runE
  rw [if_pos ((checkE_ok (cells := 2)).2 ⟨hl, by omega, hT⟩)]
  unfold pickE
  rw [if_neg (by omega), if_pos ha]

theorem words34 : Words [3, 4] := ⟨fun x hx => by
  simp only [List.mem_cons, List.not_mem_nil, or_false] at hx
  rcases hx with rfl | rfl <;> decide⟩

/-- a law's own slice of two tasks -/
theorem tasks2 {W : World} {b : Nat} {v1 v2 : Value} {A B : List InsV} (hb : W.heap[b]? = some (.cells #[v1, v2] 43 (0, 0))) (h1 : SliceAt W v1 4 InsV.en A) (h2 : SliceAt W v2 4 InsV.en B) : TasksAt W (.slice (some ⟨b, 0, none⟩) 2 2) [⟨v1, A⟩, ⟨v2, B⟩] :=
  ⟨sliceAt_flat (en := fun t : TaskV => [t.v]) (n := 1) (cap := 2) (L := [⟨v1, A⟩, ⟨v2, B⟩]) (fun _ => rfl) hb rfl (by simp) (by simp [maxLen]), fun t ht => by
    simp only [List.mem_cons, List.not_mem_nil, or_false] at ht
    rcases ht with rfl | rfl
    · exact h1
    · exact h2⟩
theorem tasks1 {W : World} {b : Nat} {v1 : Value} {A : List InsV} (hb : W.heap[b]? = some (.cells #[v1] 43 (0, 0))) (h1 : SliceAt W v1 4 InsV.en A) : TasksAt W (.slice (some ⟨b, 0, none⟩) 1 1) [⟨v1, A⟩] :=
  ⟨sliceAt_flat (en := fun t : TaskV => [t.v]) (n := 1) (cap := 1) (L := [⟨v1, A⟩]) (fun _ => rfl) hb rfl (by simp) (by simp [maxLen]), fun t ht => by
    rw [List.mem_singleton.1 ht]
    exact h1⟩

theorem run_two {W : World} {vt vc vp v1 v2 : Value} {A' B' : List InsV} {P : List Int} {X : Sys} (hT : TasksAt W vt [⟨v1, A'⟩, ⟨v2, B'⟩]) (hC : WordsAt W vc [3, 4]) (hP : IntsAt W vp P) (hE : runE [A', B'] 2 P = 0) (hX : (Sys.start [A', B'] [3, 4]).run [A', B'] P = X) :
    Calls Try.prog 13 #[vt, vc, vp] W fun e w' => ∃ h g2 g3, e = .returned (.tuple #[repV h 2 g2 g3 2 X.steps, .int .i64 0]) ∧ RepG w' h g2 g3 X.c (X.ms.map Mc.r) (donesOf [A', B'] X.ms) ∧ Below W.heap.size W w' := by
  refine (run_ok hT hC words34 hP hE hX).mono ?_
  rintro e w' ⟨h, g2, g3, rfl, hR, _, hb⟩
  exact ⟨h, g2, g3, rfl, hR, hb⟩
theorem run_one {W : World} {vt vc vp v1 : Value} {A' : List InsV} {P : List Int} {X : Sys} (hT : TasksAt W vt [⟨v1, A'⟩]) (hC : WordsAt W vc [3, 4]) (hP : IntsAt W vp P) (hE : runE [A'] 2 P = 0) (hX : (Sys.start [A'] [3, 4]).run [A'] P = X) :
    Calls Try.prog 13 #[vt, vc, vp] W fun e w' => ∃ h g2 g3, e = .returned (.tuple #[repV h 2 g2 g3 1 X.steps, .int .i64 0]) ∧ RepG w' h g2 g3 X.c (X.ms.map Mc.r) (donesOf [A'] X.ms) ∧ Below W.heap.size W w' := by
  refine (run_ok hT hC words34 hP hE hX).mono ?_
  rintro e w' ⟨h, g2, g3, rfl, hR, _, hb⟩
  exact ⟨h, g2, g3, rfl, hR, hb⟩
theorem list8 {l : List Int} (h : l.length = 8) : ∃ a b c d e f g i, l = [a, b, c, d, e, f, g, i] := by
  match l, h with
  | [a, b, c, d, e, f, g, i], _ => exact ⟨a, b, c, d, e, f, g, i, rfl⟩
abbrev oC : Obj := .cells #[.int .u64 3, .int .u64 4] 38
theorem cells34 {W : World} {b : Nat} (hb : W.heap[b]? = some oC) : WordsAt W (.slice (some ⟨b, 0, none⟩) 2 2) [3, 4] :=
  sliceAt_flat (en := fun x : Int => [Value.int .u64 x]) (n := 1) (cap := 2) (L := [(3 : Int), 4]) (fun _ => rfl) hb rfl (by decide) (by decide)
abbrev rep (h g2 g3 m k : Nat) : Obj := .cells #[.slice (some ⟨h, 0, none⟩) 2 2, .slice (some ⟨g2, 0, none⟩) m m, .slice (some ⟨g3, 0, none⟩) m m, .int .i64 (k : Int)] 34

set_option maxRecDepth 100000 in
set_option maxHeartbeats 1000000 in
theorem walk (va vb vp : Value) (A B : List InsV) (ps : List Int) (w : World) (hA : SliceAt w va 4 InsV.en A) (hB : SliceAt w vb 4 InsV.en B) (hP : IntsAt w vp ps) (hNA : NilOk va) (hNB : NilOk vb) :
    Calls Try.prog 6 #[va, vb, vp] w fun e w' => e = .returned (.bool true) ∧ Below w.heap.size w w' := by
  obtain ⟨i1, ki, kz0, kz1, kz2⟩ := info_parts infoI
  have HA : Hid (SliceAt w va 4 InsV.en A) := hA
  have HB : Hid (SliceAt w vb 4 InsV.en B) := hB
  have HNA : Hid (NilOk va) := hNA
  have HNB : Hid (NilOk vb) := hNB
  obtain ⟨aa, ca, rfl, -, -, -⟩ := hA
  obtain ⟨ab, cb, rfl, -, -, -⟩ := hB
  obtain ⟨ap, cp, rfl, hlp, hcp, hxp⟩ := hP
  have HXP : Hid (ps ≠ [] → ∃ b off, ap = some ⟨b, off, none⟩ ∧ b < w.heap.size ∧ ∀ i, (h : i < ps.length) → ∀ (j : Nat) (u : Value), ([Value.int .i64 ps[i]])[j]? = some u → w.cell? ⟨b, off + i * 1 + j, none⟩ = some u) := hxp
  unfold maxLen at hcp
  clear hxp hNA hNB
  go_enter Try.func6, Try.ntmps6
  go_wp2_with fail
  refine (works_any _).mono ?_
  rintro e w1 ⟨rfl, hb1⟩
  have HB1 : Hid (Below w.heap.size w w1) := hb1
  have hbW : Below w.heap.size w (w1.alloc (.cells #[.slice aa A.length ca, .slice ab B.length cb] 43)) := hb1.alloc hb1.size _
  have HT0 : Hid (TasksAt (w1.alloc (.cells #[.slice aa A.length ca, .slice ab B.length cb] 43)) (.slice (some ⟨w1.heap.size, 0, none⟩) 2 2) [⟨.slice aa A.length ca, A⟩, ⟨.slice ab B.length cb, B⟩]) := tasks2 (heap_new w1 _) (HA.out.below hbW) (HB.out.below hbW)
  have HBW : Hid (Below w.heap.size w (w1.alloc (.cells #[.slice aa A.length ca, .slice ab B.length cb] 43))) := hbW
  clear hb1 hbW
  go_wp2_with fail
  refine (check_any _ _ 2 _ HT0.out).mono ?_
  rintro e w2 ⟨rfl, hb2⟩
  have HB2 : Hid (Below w.heap.size w w2) := HBW.out.trans (hb2.mono HBW.out.size)
  clear hb2 HT0
  obtain ⟨⟨z1, z2, z3⟩, hz⟩ : ∃ z, checkE (codes [⟨.slice aa A.length ca, A⟩, ⟨.slice ab B.length cb, B⟩]) 2 = z := ⟨_, rfl⟩
  rw [hz]
  dsimp only
  by_cases hz3 : z3 = 0
  · subst hz3
    have hOK : TasksOk [A, B] 2 := checkE_ok.1 (by
      have : checkE [A, B] ((2 : Nat) : Int) = (z1, z2, 0) := hz
      rw [this])
    have hlA : A.length ≤ 4096 := (hOK.all A (by simp)).len
    have hlB : B.length ≤ 4096 := (hOK.all B (by simp)).len
    have HOK : Hid (TaskOk A 2 ∧ TaskOk B 2) := ⟨hOK.all A (by simp), hOK.all B (by simp)⟩
    clear hOK hz HBW HB1
    go_wp2_with fail
    refine (over_any _ A 0 _ (HA.out.below HB2.out) HNA.out hlA).mono ?_
    rintro e w3 ⟨a1, c1, rfl, hs1, hb3⟩
    have HB3 : Hid (Below w.heap.size w w3) := HB2.out.trans (hb3.mono HB2.out.size)
    have HS1 : Hid (SliceAt w3 (.slice a1 A.length c1) 4 InsV.en (over 0 A)) := hs1
    clear hs1 hb3 HB2
    go_wp2_with fail
    refine (over_any _ B 1 _ (HB.out.below HB3.out) HNB.out hlB).mono ?_
    rintro e u0 ⟨a2, c2, rfl, hs2, hb4⟩
    have HB4 : Hid (Below w.heap.size w u0) := HB3.out.trans (hb4.mono HB3.out.size)
    have HS2 : Hid (SliceAt u0 (.slice a2 B.length c2) 4 InsV.en (over 1 B)) := hs2
    have HS1' : Hid (SliceAt u0 (.slice a1 A.length c1) 4 InsV.en (over 0 A)) := HS1.out.below hb4
    clear hs2 hb4 HB3 HS1
    obtain ⟨A', hA'⟩ : ∃ A', over 0 A = A' := ⟨_, rfl⟩
    obtain ⟨B', hB'⟩ : ∃ B', over 1 B = B' := ⟨_, rfl⟩
    have HOv : Hid (Only 0 A' ∧ Only 1 B' ∧ TaskOk A' 2 ∧ TaskOk B' 2) := by
      subst hA' hB'
      exact ⟨over_only 0 A, over_only 1 B, over_ok (by decide) HOK.out.1, over_ok (by decide) HOK.out.2⟩
    have hlA' : A'.length = A.length := by rw [← hA']; exact over_length 0 A
    have hlB' : B'.length = B.length := by rw [← hB']; exact over_length 1 B
    rw [hA'] at HS1'
    rw [hB'] at HS2
    go_wp2_with fail
    clear hA' hB' HOK HNA HNB HA HB
    go_loopw [12, 13, 14, 15] (fun a b c i wr => ∃ n : Nat, n ≤ ps.length ∧ n ≤ 300 ∧ i = .int .i64 n ∧ St3 u0 wr a b c A' B' n) (fun _ _ _ i _ => ps.length - (intOf i).toNat)
    case atStart => exact ⟨0, Nat.zero_le _, Nat.zero_le _, rfl, [], [], [], ⟨⟨rfl, Or.inl ⟨rfl, rfl⟩⟩, ⟨rfl, Or.inl ⟨rfl, rfl⟩⟩, ⟨rfl, Or.inl ⟨rfl, rfl⟩⟩, (fun i hi => by cases hi), (fun i hi => by cases hi), (fun i hi => by cases hi), Below.refl _ _⟩, rfl, Nat.le_refl _, Nat.le_refl _, (fun q hq => by cases hq), (fun q hq => by cases hq), (fun q hq => by cases hq), Rel.start A' B'⟩
    case round =>
      obtain ⟨n, hn, hn3, rfl, hst⟩ := hrel
      have HST : Hid (St3 u0 wr u12 u13 u14 A' B' n) := hst
      clear hst
      by_cases hlt : n < ps.length
      · have hlI : (n : Int) < (ps.length : Int) := by omega
        by_cases h3 : n < 300
        · have h3I : (n : Int) < 300 := by omega
          obtain ⟨P, F, G, htri, hpl, hfl, hgl, hpa, hfa, hga, hrl⟩ := HST.out.ex
          have HTri : Hid (Tri u0 wr u12 u13 u14 P F G) := htri
          have HAll : Hid ((∀ q ∈ P, 0 ≤ q ∧ q < 2) ∧ (∀ q ∈ F, q = 0) ∧ (∀ q ∈ G, q = 0)) := ⟨hpa, hfa, hga⟩
          have HRl : Hid (Rel ((Sys.start [A', B'] [3, 4]).run [A', B'] P) ((Sys.start [A'] [3, 4]).run [A'] F) ((Sys.start [B'] [3, 4]).run [B'] G)) := hrl
          obtain ⟨b, off, rfl, hbl, hcs⟩ := HXP.out (by intro e; rw [e] at hlt; simp at hlt)
          obtain ⟨x, hxe⟩ : ∃ x, ps[n] = x := ⟨_, rfl⟩
          have q := hcs n hlt 0 _ rfl
          rw [hxe, Nat.mul_one, Nat.add_zero] at q
          have hbw : Below w.heap.size w wr := HB4.out.trans (htri.below.mono HB4.out.size)
          have p0 : wr.cell? ⟨b, off + n, none⟩ = some (.int .i64 x) := (hbw.cell hbl).trans q
          have hsz : u0.heap.size ≤ wr.heap.size := htri.below.size
          have HPL : Hid (P.length = n) := hpl
          have hpb : P.length ≤ 300 := by omega
          have HFL : Hid (F.length ≤ n ∧ G.length ≤ n) := ⟨hfl, hgl⟩
          have hfb : F.length ≤ 300 := by omega
          have hgb : G.length ≤ 300 := by omega
          clear hpl hfl hgl
          clear htri hpa hfa hga hrl hcs q hbw hxe
          rcases two_nat x with hq | hq
          · have HO1 : Hid ((wr.alloc (.cells #[.int .i64 0] 3)).ownsRow u0.heap.size 3 1 u12 P.length (flat ei P)) := HTri.out.o1.alloc _
            go_wp2_with (at_builtin; go_must (refine wpList_append_lies _ rfl _ _ 24 rfl u0.heap.size 3 i1 (.int .i64 0) 1 8 Try.underlying24 ki kz0 kz1 kz2 rfl (by decide) u12 P.length (flat ei P) rfl HO1.out ⟨wr.heap.size, 0, none⟩ 1 1 [.int .i64 0] rfl rfl ?q2 ?q3 (by omega) ?q4 ?q5 ?q6 (wr.heap.size + 1) ?q7 ?_))
            case q2 =>
              intro i u hu
              rw [Addr.add_lit, cell_of (heap_new wr _)]
              match i, hu with
              | 0, hu => simpa using hu
            case q3 =>
              intro u hu
              rw [List.mem_singleton.1 hu]
              rfl
            case q4 => unfold maxLen; omega
            case q5 => omega
            case q6 => simp; omega
            case q7 => simp
            intro g1 k1 w6 hown6 hgrow6 hv6 _
            have HTri6 : Hid (Tri u0 w6 (.slice (some ⟨g1, 0, none⟩) (P.length + 1) k1) u13 u14 (P ++ [0]) F G) := HTri.out.app hown6 hgrow6 hv6
            have hsz6 : u0.heap.size ≤ w6.heap.size := HTri6.out.below.size
            clear hown6 hgrow6 hv6 HO1
            have HO2 : Hid ((w6.alloc (.cells #[.int .i64 0] 3)).ownsRow u0.heap.size 3 1 u13 F.length (flat ei F)) := HTri6.out.o2.alloc _
            go_wp2_with (at_builtin; go_must (refine wpList_append_lies _ rfl _ _ 24 rfl u0.heap.size 3 i1 (.int .i64 0) 1 8 Try.underlying24 ki kz0 kz1 kz2 rfl (by decide) u13 F.length (flat ei F) rfl HO2.out ⟨w6.heap.size, 0, none⟩ 1 1 [.int .i64 0] rfl rfl ?q2 ?q3 (by omega) ?q4 ?q5 ?q6 (w6.heap.size + 1) ?q7 ?_))
            case q2 =>
              intro i u hu
              rw [Addr.add_lit, cell_of (heap_new w6 _)]
              match i, hu with
              | 0, hu => simpa using hu
            case q3 =>
              intro u hu
              rw [List.mem_singleton.1 hu]
              rfl
            case q4 => unfold maxLen; omega
            case q5 => omega
            case q6 => simp; omega
            case q7 => simp
            intro g2 k2 w7 hown7 hgrow7 hv7 _
            have HN : Hid (St3 u0 w7 (.slice (some ⟨g1, 0, none⟩) (P.length + 1) k1) (.slice (some ⟨g2, 0, none⟩) (F.length + 1) k2) u14 A' B' (n + 1)) := by
              have h7 := (HTri6.out.rot).app hown7 hgrow7 hv7
              refine ⟨P ++ [0], (F ++ [0]), G, h7.rot.rot, by rw [List.length_append, HPL.out]; rfl, by have := HFL.out; simp; omega, by have := HFL.out; omega, fun q hq => ?_, fun q hq => ?_, fun q hq => ?_, ?_⟩
              · rcases List.mem_append.1 hq with h1 | h1
                · exact HAll.out.1 q h1
                · rw [List.mem_singleton.1 h1]; decide
              · rcases List.mem_append.1 hq with h1 | h1
                · exact HAll.out.2.1 q h1
                · exact List.mem_singleton.1 h1
              · exact HAll.out.2.2 q hq
              · rw [run_snoc, run_snoc]
                exact HRl.out.pick0 HOv.out.1
            clear hown7 hgrow7 hv7 HO2
            go_wp2_with fail
            go_roundw
            case rel => exact ⟨n + 1, by omega, by omega, by go_num, HN.out⟩
            case measure => simp [intOf]; omega
          · have HO1 : Hid ((wr.alloc (.cells #[.int .i64 1] 3)).ownsRow u0.heap.size 3 1 u12 P.length (flat ei P)) := HTri.out.o1.alloc _
            go_wp2_with (at_builtin; go_must (refine wpList_append_lies _ rfl _ _ 24 rfl u0.heap.size 3 i1 (.int .i64 0) 1 8 Try.underlying24 ki kz0 kz1 kz2 rfl (by decide) u12 P.length (flat ei P) rfl HO1.out ⟨wr.heap.size, 0, none⟩ 1 1 [.int .i64 1] rfl rfl ?q2 ?q3 (by omega) ?q4 ?q5 ?q6 (wr.heap.size + 1) ?q7 ?_))
            case q2 =>
              intro i u hu
              rw [Addr.add_lit, cell_of (heap_new wr _)]
              match i, hu with
              | 0, hu => simpa using hu
            case q3 =>
              intro u hu
              rw [List.mem_singleton.1 hu]
              rfl
            case q4 => unfold maxLen; omega
            case q5 => omega
            case q6 => simp; omega
            case q7 => simp
            intro g1 k1 w6 hown6 hgrow6 hv6 _
            have HTri6 : Hid (Tri u0 w6 (.slice (some ⟨g1, 0, none⟩) (P.length + 1) k1) u13 u14 (P ++ [1]) F G) := HTri.out.app hown6 hgrow6 hv6
            have hsz6 : u0.heap.size ≤ w6.heap.size := HTri6.out.below.size
            clear hown6 hgrow6 hv6 HO1
            have HO2 : Hid ((w6.alloc (.cells #[.int .i64 0] 3)).ownsRow u0.heap.size 3 1 u14 G.length (flat ei G)) := HTri6.out.o3.alloc _
            go_wp2_with (at_builtin; go_must (refine wpList_append_lies _ rfl _ _ 24 rfl u0.heap.size 3 i1 (.int .i64 0) 1 8 Try.underlying24 ki kz0 kz1 kz2 rfl (by decide) u14 G.length (flat ei G) rfl HO2.out ⟨w6.heap.size, 0, none⟩ 1 1 [.int .i64 0] rfl rfl ?q2 ?q3 (by omega) ?q4 ?q5 ?q6 (w6.heap.size + 1) ?q7 ?_))
            case q2 =>
              intro i u hu
              rw [Addr.add_lit, cell_of (heap_new w6 _)]
              match i, hu with
              | 0, hu => simpa using hu
            case q3 =>
              intro u hu
              rw [List.mem_singleton.1 hu]
              rfl
            case q4 => unfold maxLen; omega
            case q5 => omega
            case q6 => simp; omega
            case q7 => simp
            intro g2 k2 w7 hown7 hgrow7 hv7 _
            have HN : Hid (St3 u0 w7 (.slice (some ⟨g1, 0, none⟩) (P.length + 1) k1) u13 (.slice (some ⟨g2, 0, none⟩) (G.length + 1) k2) A' B' (n + 1)) := by
              have h7 := (HTri6.out.rot.rot).app hown7 hgrow7 hv7
              refine ⟨P ++ [1], F, (G ++ [0]), h7.rot, by rw [List.length_append, HPL.out]; rfl, by have := HFL.out; omega, by have := HFL.out; simp; omega, fun q hq => ?_, fun q hq => ?_, fun q hq => ?_, ?_⟩
              · rcases List.mem_append.1 hq with h1 | h1
                · exact HAll.out.1 q h1
                · rw [List.mem_singleton.1 h1]; decide
              · exact HAll.out.2.1 q hq
              · rcases List.mem_append.1 hq with h1 | h1
                · exact HAll.out.2.2 q h1
                · exact List.mem_singleton.1 h1
              · rw [run_snoc, run_snoc]
                exact HRl.out.pick1 HOv.out.2.1
            clear hown7 hgrow7 hv7 HO2
            go_wp2_with fail
            go_roundw
            case rel => exact ⟨n + 1, by omega, by omega, by go_num, HN.out⟩
            case measure => simp [intOf]; omega
        · have h3I : ¬ (n : Int) < 300 := by omega
          go_wp2_with fail
          obtain ⟨P, F, G, htri, hpl, hfl, hgl, hpa, hfa, hga, hrl⟩ := HST.out.ex
          obtain ⟨X, hX⟩ : ∃ X, (Sys.start [A', B'] [3, 4]).run [A', B'] P = X := ⟨_, rfl⟩
          obtain ⟨Y, hY⟩ : ∃ Y, (Sys.start [A'] [3, 4]).run [A'] F = Y := ⟨_, rfl⟩
          obtain ⟨Z, hZ⟩ : ∃ Z, (Sys.start [B'] [3, 4]).run [B'] G = Z := ⟨_, rfl⟩
          have hsy : Y.steps ≤ 300 := by
            have := Sys.run_steps [A'] F (Sys.start [A'] [3, 4])
            rw [hY] at this
            have h0 : (Sys.start [A'] [3, 4]).steps = 0 := rfl
            omega
          have hsz : Z.steps ≤ 300 := by
            have := Sys.run_steps [B'] G (Sys.start [B'] [3, 4])
            rw [hZ] at this
            have h0 : (Sys.start [B'] [3, 4]).steps = 0 := rfl
            omega
          rw [hX, hY, hZ] at hrl
          have HX : Hid ((Sys.start [A', B'] [3, 4]).run [A', B'] P = X) := hX
          have HY : Hid ((Sys.start [A'] [3, 4]).run [A'] F = Y) := hY
          have HZ : Hid ((Sys.start [B'] [3, 4]).run [B'] G = Z) := hZ
          have HEx : Hid (runE [A', B'] 2 P = 0) := noE (by
            intro L hL
            simp only [List.mem_cons, List.not_mem_nil, or_false] at hL
            rcases hL with rfl | rfl
            · exact HOv.out.2.2.1
            · exact HOv.out.2.2.2) (by simp) (by omega) hpa
          have HEy : Hid (runE [A'] 2 F = 0) := noE (fun L hL => by rw [List.mem_singleton.1 hL]; exact HOv.out.2.2.1) (by simp) (by omega) (fun q hq => by rw [hfa q hq]; simp)
          have HEz : Hid (runE [B'] 2 G = 0) := noE (fun L hL => by rw [List.mem_singleton.1 hL]; exact HOv.out.2.2.2) (by simp) (by omega) (fun q hq => by rw [hga q hq]; simp)
          have HTri : Hid (Tri u0 wr u12 u13 u14 P F G) := htri
          have HPr : Hid (IntsAt wr u12 P ∧ IntsAt wr u13 F ∧ IntsAt wr u14 G) := ⟨own_slice (en := ei) (n := 1) (fun _ => rfl) htri.o1, own_slice (en := ei) (n := 1) (fun _ => rfl) htri.o2, own_slice (en := ei) (n := 1) (fun _ => rfl) htri.o3⟩
          have hb1 : Below wr.heap.size wr ((wr.alloc (.cells #[.slice a1 A.length c1, .slice a2 B.length c2] 43)).alloc oC) := ((Below.refl _ _).alloc (Nat.le_refl _) _).alloc (by simp) _
          have HS1r : Hid (SliceAt wr (.slice a1 A.length c1) 4 InsV.en A') := HS1'.out.below htri.below
          have HS2r : Hid (SliceAt wr (.slice a2 B.length c2) 4 InsV.en B') := HS2.out.below htri.below
          have HBr : Hid (Below w.heap.size w wr) := HB4.out.trans (htri.below.mono HB4.out.size)
          have ho1 : ((wr.alloc (.cells #[.slice a1 A.length c1, .slice a2 B.length c2] 43)).alloc oC).heap[wr.heap.size]? = some (.cells #[.slice a1 A.length c1, .slice a2 B.length c2] 43) := by rw [heap_alloc, if_neg (by simp), heap_new]
          have ho2 : ((wr.alloc (.cells #[.slice a1 A.length c1, .slice a2 B.length c2] 43)).alloc oC).heap[wr.heap.size + 1]? = some oC := by
            have := heap_new (wr.alloc (.cells #[.slice a1 A.length c1, .slice a2 B.length c2] 43)) oC
            rw [World.size_alloc] at this
            exact this
          have HRl : Hid (Rel X Y Z) := hrl
          clear hX hY hZ hpa hfa hga htri hrl hpl hfl hgl HST HTri
          refine (run_two (X := X) (tasks2 ho1 (HS1r.out.below hb1) (HS2r.out.below hb1)) (cells34 ho2) (HPr.out.1.below hb1) HEx.out HX.out).mono ?_
          rintro e wx ⟨hx, gx2, gx3, rfl, hRx, hbx⟩
          obtain ⟨sx, hsx⟩ : ∃ s, X.steps = s := ⟨_, rfl⟩
          rw [hsx]
          have hbx2 : Below wr.heap.size wr (wx.alloc (rep hx gx2 gx3 2 sx)) := ((hb1.trans (hbx.mono hb1.size)).alloc (by have := hb1.size; have := hbx.size; omega) _)
          have HBx2 : Hid (Below wr.heap.size wr (wx.alloc (rep hx gx2 gx3 2 sx))) := hbx2
          have HRx : Hid (RepG wx hx gx2 gx3 X.c (X.ms.map Mc.r) (donesOf [A', B'] X.ms)) := hRx
          have HWx : Hid (Below wx.heap.size wx (wx.alloc (rep hx gx2 gx3 2 sx))) := (Below.refl _ _).alloc (Nat.le_refl _) _
          have HOx : Hid ((wx.alloc (rep hx gx2 gx3 2 sx)).heap[wx.heap.size]? = some (rep hx gx2 gx3 2 sx)) := heap_new wx _
          clear hRx hbx hbx2 hb1 ho1 ho2
          go_wp2_with fail
          have hb3 : Below (wx.alloc (rep hx gx2 gx3 2 sx)).heap.size (wx.alloc (rep hx gx2 gx3 2 sx)) (((wx.alloc (rep hx gx2 gx3 2 sx)).alloc (.cells #[.slice a1 A.length c1] 43)).alloc oC) := ((Below.refl _ _).alloc (Nat.le_refl _) _).alloc (by simp) _
          have ho1 : (((wx.alloc (rep hx gx2 gx3 2 sx)).alloc (.cells #[.slice a1 A.length c1] 43)).alloc oC).heap[(wx.alloc (rep hx gx2 gx3 2 sx)).heap.size]? = some (.cells #[.slice a1 A.length c1] 43) := by rw [heap_alloc, if_neg (by simp), heap_new]
          have ho2 : (((wx.alloc (rep hx gx2 gx3 2 sx)).alloc (.cells #[.slice a1 A.length c1] 43)).alloc oC).heap[(wx.alloc (rep hx gx2 gx3 2 sx)).heap.size + 1]? = some oC := by
            have := heap_new ((wx.alloc (rep hx gx2 gx3 2 sx)).alloc (.cells #[.slice a1 A.length c1] 43)) oC
            rw [World.size_alloc] at this
            exact this
          have hb3r : Below wr.heap.size wr (((wx.alloc (rep hx gx2 gx3 2 sx)).alloc (.cells #[.slice a1 A.length c1] 43)).alloc oC) := HBx2.out.trans (hb3.mono HBx2.out.size)
          rw [World.size_alloc] at ho1 ho2
          refine (run_one (X := Y) (tasks1 ho1 (HS1r.out.below hb3r)) (cells34 ho2) (HPr.out.2.1.below hb3r) HEy.out HY.out).mono ?_
          rintro e wy ⟨hy, gy2, gy3, rfl, hRy, hby⟩
          obtain ⟨sy, hsy2⟩ : ∃ s, Y.steps = s := ⟨_, rfl⟩
          rw [hsy2] at hsy ⊢
          have hb3y : Below (wx.alloc (rep hx gx2 gx3 2 sx)).heap.size (wx.alloc (rep hx gx2 gx3 2 sx)) (wy.alloc (rep hy gy2 gy3 1 sy)) := ((hb3.trans (hby.mono hb3.size)).alloc (by have := hb3.size; have := hby.size; omega) _)
          have HBy4 : Hid (Below wr.heap.size wr (wy.alloc (rep hy gy2 gy3 1 sy))) := HBx2.out.trans (hb3y.mono HBx2.out.size)
          have HWx4 : Hid (Below wx.heap.size wx (wy.alloc (rep hy gy2 gy3 1 sy))) := HWx.out.trans (hb3y.mono HWx.out.size)
          have HOx4 : Hid ((wy.alloc (rep hy gy2 gy3 1 sy)).heap[wx.heap.size]? = some (rep hx gx2 gx3 2 sx)) := (hb3y.block _ (lt_of HOx.out)).trans HOx.out
          have HRy : Hid (RepG wy hy gy2 gy3 Y.c (Y.ms.map Mc.r) (donesOf [A'] Y.ms)) := hRy
          have HWy : Hid (Below wy.heap.size wy (wy.alloc (rep hy gy2 gy3 1 sy))) := (Below.refl _ _).alloc (Nat.le_refl _) _
          have HOy : Hid ((wy.alloc (rep hy gy2 gy3 1 sy)).heap[wy.heap.size]? = some (rep hy gy2 gy3 1 sy)) := heap_new wy _
          clear hRy hby hb3 hb3y hb3r ho1 ho2 HBx2 HWx HOx
          go_wp2_with fail
          have hb5 : Below (wy.alloc (rep hy gy2 gy3 1 sy)).heap.size (wy.alloc (rep hy gy2 gy3 1 sy)) (((wy.alloc (rep hy gy2 gy3 1 sy)).alloc (.cells #[.slice a2 B.length c2] 43)).alloc oC) := ((Below.refl _ _).alloc (Nat.le_refl _) _).alloc (by simp) _
          have ho1 : (((wy.alloc (rep hy gy2 gy3 1 sy)).alloc (.cells #[.slice a2 B.length c2] 43)).alloc oC).heap[(wy.alloc (rep hy gy2 gy3 1 sy)).heap.size]? = some (.cells #[.slice a2 B.length c2] 43) := by rw [heap_alloc, if_neg (by simp), heap_new]
          have ho2 : (((wy.alloc (rep hy gy2 gy3 1 sy)).alloc (.cells #[.slice a2 B.length c2] 43)).alloc oC).heap[(wy.alloc (rep hy gy2 gy3 1 sy)).heap.size + 1]? = some oC := by
            have := heap_new ((wy.alloc (rep hy gy2 gy3 1 sy)).alloc (.cells #[.slice a2 B.length c2] 43)) oC
            rw [World.size_alloc] at this
            exact this
          have hb5r : Below wr.heap.size wr (((wy.alloc (rep hy gy2 gy3 1 sy)).alloc (.cells #[.slice a2 B.length c2] 43)).alloc oC) := HBy4.out.trans (hb5.mono HBy4.out.size)
          rw [World.size_alloc] at ho1 ho2
          refine (run_one (X := Z) (tasks1 ho1 (HS2r.out.below hb5r)) (cells34 ho2) (HPr.out.2.2.below hb5r) HEz.out HZ.out).mono ?_
          rintro e wz ⟨hz, gz2, gz3, rfl, hRz, hbz⟩
          obtain ⟨sz, hsz2⟩ : ∃ s, Z.steps = s := ⟨_, rfl⟩
          rw [hsz2] at hsz ⊢
          have hb9 : Below (wy.alloc (rep hy gy2 gy3 1 sy)).heap.size (wy.alloc (rep hy gy2 gy3 1 sy)) (wz.alloc (rep hz gz2 gz3 1 sz)) := ((hb5.trans (hbz.mono hb5.size)).alloc (by have := hb5.size; have := hbz.size; omega) _)
          have HB9 : Hid (Below w.heap.size w (wz.alloc (rep hz gz2 gz3 1 sz))) := HBr.out.trans ((HBy4.out.trans (hb9.mono HBy4.out.size)).mono HBr.out.size)
          have hx9 : Below wx.heap.size wx (wz.alloc (rep hz gz2 gz3 1 sz)) := HWx4.out.trans (hb9.mono HWx4.out.size)
          have hy9 : Below wy.heap.size wy (wz.alloc (rep hz gz2 gz3 1 sz)) := HWy.out.trans (hb9.mono HWy.out.size)
          have hz9 : Below wz.heap.size wz (wz.alloc (rep hz gz2 gz3 1 sz)) := (Below.refl _ _).alloc (Nat.le_refl _) _
          have ox : (wz.alloc (rep hz gz2 gz3 1 sz)).heap[wx.heap.size]? = some (rep hx gx2 gx3 2 sx) := (hb9.block _ (lt_of HOx4.out)).trans HOx4.out
          have oy : (wz.alloc (rep hz gz2 gz3 1 sz)).heap[wy.heap.size]? = some (rep hy gy2 gy3 1 sy) := (hb9.block _ (lt_of HOy.out)).trans HOy.out
          obtain ⟨⟨⟨m0r, m0p⟩, ⟨m1r, m1p⟩, d0, d1, e1, e2, e3, e4, e5, e6, e7, e8⟩, hst⟩ := HRl.out
          obtain ⟨p0, p1, p2, p3, p4, p5, p6, p7, hp8⟩ := list8 e7
          obtain ⟨q0, q1, q2, q3, q4, q5, q6, q7, hq8⟩ := list8 e8
          dsimp only at hp8 hq8
          subst hp8 hq8
          rw [hsx, hsy2, hsz2] at hst
          obtain ⟨f0, hf0⟩ : ∃ f, doneOf A' ⟨[p0, p1, p2, p3, p4, p5, p6, p7], m0p⟩ = f := ⟨_, rfl⟩
          obtain ⟨f1, hf1⟩ : ∃ f, doneOf B' ⟨[q0, q1, q2, q3, q4, q5, q6, q7], m1p⟩ = f := ⟨_, rfl⟩
          have kx : RepG wx hx gx2 gx3 [d0, d1] [[p0, p1, p2, p3, p4, p5, p6, p7], [q0, q1, q2, q3, q4, q5, q6, q7]] [f0, f1] := by
            have := HRx.out
            rw [e1, e2] at this
            rw [← hf0, ← hf1]
            exact this
          have ky : RepG wy hy gy2 gy3 [d0, 4] [[p0, p1, p2, p3, p4, p5, p6, p7]] [f0] := by
            have := HRy.out
            rw [e3, e4] at this
            rw [← hf0]
            exact this
          have kz : RepG wz hz gz2 gz3 [3, d1] [[q0, q1, q2, q3, q4, q5, q6, q7]] [f1] := by
            have := hRz
            rw [e5, e6] at this
            rw [← hf1]
            exact this
          have F1 : (wz.alloc (rep hz gz2 gz3 1 sz)).cell? ⟨wx.heap.size, 0, none⟩ = some (.slice (some ⟨hx, 0, none⟩) 2 2) := by rw [cell_of ox]; rfl
          have F2 : (wz.alloc (rep hz gz2 gz3 1 sz)).cell? ⟨wx.heap.size, 1, none⟩ = some (.slice (some ⟨gx2, 0, none⟩) 2 2) := by rw [cell_of ox]; rfl
          have F3 : (wz.alloc (rep hz gz2 gz3 1 sz)).cell? ⟨wx.heap.size, 2, none⟩ = some (.slice (some ⟨gx3, 0, none⟩) 2 2) := by rw [cell_of ox]; rfl
          have F4 : (wz.alloc (rep hz gz2 gz3 1 sz)).cell? ⟨wx.heap.size, 3, none⟩ = some (.int .i64 (sx : Int)) := by rw [cell_of ox]; rfl
          have F5 : (wz.alloc (rep hz gz2 gz3 1 sz)).cell? ⟨wy.heap.size, 0, none⟩ = some (.slice (some ⟨hy, 0, none⟩) 2 2) := by rw [cell_of oy]; rfl
          have F6 : (wz.alloc (rep hz gz2 gz3 1 sz)).cell? ⟨wy.heap.size, 1, none⟩ = some (.slice (some ⟨gy2, 0, none⟩) 1 1) := by rw [cell_of oy]; rfl
          have F7 : (wz.alloc (rep hz gz2 gz3 1 sz)).cell? ⟨wy.heap.size, 2, none⟩ = some (.slice (some ⟨gy3, 0, none⟩) 1 1) := by rw [cell_of oy]; rfl
          have F8 : (wz.alloc (rep hz gz2 gz3 1 sz)).cell? ⟨wy.heap.size, 3, none⟩ = some (.int .i64 (sy : Int)) := by rw [cell_of oy]; rfl
          have F9 : (wz.alloc (rep hz gz2 gz3 1 sz)).cell? ⟨gx2, 0, none⟩ = some (.int .u64 p0) := repG_r kx hx9 (t := 0) (i := 0) (by simp) (by omega)
          have F10 : (wz.alloc (rep hz gz2 gz3 1 sz)).cell? ⟨gx2, 1, none⟩ = some (.int .u64 p1) := repG_r kx hx9 (t := 0) (i := 1) (by simp) (by omega)
          have F11 : (wz.alloc (rep hz gz2 gz3 1 sz)).cell? ⟨gx2, 2, none⟩ = some (.int .u64 p2) := repG_r kx hx9 (t := 0) (i := 2) (by simp) (by omega)
          have F12 : (wz.alloc (rep hz gz2 gz3 1 sz)).cell? ⟨gx2, 3, none⟩ = some (.int .u64 p3) := repG_r kx hx9 (t := 0) (i := 3) (by simp) (by omega)
          have F13 : (wz.alloc (rep hz gz2 gz3 1 sz)).cell? ⟨gx2, 4, none⟩ = some (.int .u64 p4) := repG_r kx hx9 (t := 0) (i := 4) (by simp) (by omega)
          have F14 : (wz.alloc (rep hz gz2 gz3 1 sz)).cell? ⟨gx2, 5, none⟩ = some (.int .u64 p5) := repG_r kx hx9 (t := 0) (i := 5) (by simp) (by omega)
          have F15 : (wz.alloc (rep hz gz2 gz3 1 sz)).cell? ⟨gx2, 6, none⟩ = some (.int .u64 p6) := repG_r kx hx9 (t := 0) (i := 6) (by simp) (by omega)
          have F16 : (wz.alloc (rep hz gz2 gz3 1 sz)).cell? ⟨gx2, 7, none⟩ = some (.int .u64 p7) := repG_r kx hx9 (t := 0) (i := 7) (by simp) (by omega)
          have F17 : (wz.alloc (rep hz gz2 gz3 1 sz)).cell? ⟨gx2, 8, none⟩ = some (.int .u64 q0) := repG_r kx hx9 (t := 1) (i := 0) (by simp) (by omega)
          have F18 : (wz.alloc (rep hz gz2 gz3 1 sz)).cell? ⟨gx2, 9, none⟩ = some (.int .u64 q1) := repG_r kx hx9 (t := 1) (i := 1) (by simp) (by omega)
          have F19 : (wz.alloc (rep hz gz2 gz3 1 sz)).cell? ⟨gx2, 10, none⟩ = some (.int .u64 q2) := repG_r kx hx9 (t := 1) (i := 2) (by simp) (by omega)
          have F20 : (wz.alloc (rep hz gz2 gz3 1 sz)).cell? ⟨gx2, 11, none⟩ = some (.int .u64 q3) := repG_r kx hx9 (t := 1) (i := 3) (by simp) (by omega)
          have F21 : (wz.alloc (rep hz gz2 gz3 1 sz)).cell? ⟨gx2, 12, none⟩ = some (.int .u64 q4) := repG_r kx hx9 (t := 1) (i := 4) (by simp) (by omega)
          have F22 : (wz.alloc (rep hz gz2 gz3 1 sz)).cell? ⟨gx2, 13, none⟩ = some (.int .u64 q5) := repG_r kx hx9 (t := 1) (i := 5) (by simp) (by omega)
          have F23 : (wz.alloc (rep hz gz2 gz3 1 sz)).cell? ⟨gx2, 14, none⟩ = some (.int .u64 q6) := repG_r kx hx9 (t := 1) (i := 6) (by simp) (by omega)
          have F24 : (wz.alloc (rep hz gz2 gz3 1 sz)).cell? ⟨gx2, 15, none⟩ = some (.int .u64 q7) := repG_r kx hx9 (t := 1) (i := 7) (by simp) (by omega)
          have F25 : (wz.alloc (rep hz gz2 gz3 1 sz)).cell? ⟨gy2, 0, none⟩ = some (.int .u64 p0) := repG_r ky hy9 (t := 0) (i := 0) (by simp) (by omega)
          have F26 : (wz.alloc (rep hz gz2 gz3 1 sz)).cell? ⟨gy2, 1, none⟩ = some (.int .u64 p1) := repG_r ky hy9 (t := 0) (i := 1) (by simp) (by omega)
          have F27 : (wz.alloc (rep hz gz2 gz3 1 sz)).cell? ⟨gy2, 2, none⟩ = some (.int .u64 p2) := repG_r ky hy9 (t := 0) (i := 2) (by simp) (by omega)
          have F28 : (wz.alloc (rep hz gz2 gz3 1 sz)).cell? ⟨gy2, 3, none⟩ = some (.int .u64 p3) := repG_r ky hy9 (t := 0) (i := 3) (by simp) (by omega)
          have F29 : (wz.alloc (rep hz gz2 gz3 1 sz)).cell? ⟨gy2, 4, none⟩ = some (.int .u64 p4) := repG_r ky hy9 (t := 0) (i := 4) (by simp) (by omega)
          have F30 : (wz.alloc (rep hz gz2 gz3 1 sz)).cell? ⟨gy2, 5, none⟩ = some (.int .u64 p5) := repG_r ky hy9 (t := 0) (i := 5) (by simp) (by omega)
          have F31 : (wz.alloc (rep hz gz2 gz3 1 sz)).cell? ⟨gy2, 6, none⟩ = some (.int .u64 p6) := repG_r ky hy9 (t := 0) (i := 6) (by simp) (by omega)
          have F32 : (wz.alloc (rep hz gz2 gz3 1 sz)).cell? ⟨gy2, 7, none⟩ = some (.int .u64 p7) := repG_r ky hy9 (t := 0) (i := 7) (by simp) (by omega)
          have F33 : (wz.alloc (rep hz gz2 gz3 1 sz)).cell? ⟨gz2, 0, none⟩ = some (.int .u64 q0) := repG_r kz hz9 (t := 0) (i := 0) (by simp) (by omega)
          have F34 : (wz.alloc (rep hz gz2 gz3 1 sz)).cell? ⟨gz2, 1, none⟩ = some (.int .u64 q1) := repG_r kz hz9 (t := 0) (i := 1) (by simp) (by omega)
          have F35 : (wz.alloc (rep hz gz2 gz3 1 sz)).cell? ⟨gz2, 2, none⟩ = some (.int .u64 q2) := repG_r kz hz9 (t := 0) (i := 2) (by simp) (by omega)
          have F36 : (wz.alloc (rep hz gz2 gz3 1 sz)).cell? ⟨gz2, 3, none⟩ = some (.int .u64 q3) := repG_r kz hz9 (t := 0) (i := 3) (by simp) (by omega)
          have F37 : (wz.alloc (rep hz gz2 gz3 1 sz)).cell? ⟨gz2, 4, none⟩ = some (.int .u64 q4) := repG_r kz hz9 (t := 0) (i := 4) (by simp) (by omega)
          have F38 : (wz.alloc (rep hz gz2 gz3 1 sz)).cell? ⟨gz2, 5, none⟩ = some (.int .u64 q5) := repG_r kz hz9 (t := 0) (i := 5) (by simp) (by omega)
          have F39 : (wz.alloc (rep hz gz2 gz3 1 sz)).cell? ⟨gz2, 6, none⟩ = some (.int .u64 q6) := repG_r kz hz9 (t := 0) (i := 6) (by simp) (by omega)
          have F40 : (wz.alloc (rep hz gz2 gz3 1 sz)).cell? ⟨gz2, 7, none⟩ = some (.int .u64 q7) := repG_r kz hz9 (t := 0) (i := 7) (by simp) (by omega)
          have F41 : (wz.alloc (rep hz gz2 gz3 1 sz)).cell? ⟨hx, 0, none⟩ = some (.int .u64 d0) := repG_c kx hx9 (i := 0) (by simp)
          have F42 : (wz.alloc (rep hz gz2 gz3 1 sz)).cell? ⟨hx, 1, none⟩ = some (.int .u64 d1) := repG_c kx hx9 (i := 1) (by simp)
          have F43 : (wz.alloc (rep hz gz2 gz3 1 sz)).cell? ⟨hy, 0, none⟩ = some (.int .u64 d0) := repG_c ky hy9 (i := 0) (by simp)
          have F44 : (wz.alloc (rep hz gz2 gz3 1 sz)).cell? ⟨hz, 1, none⟩ = some (.int .u64 d1) := repG_c kz hz9 (i := 1) (by simp)
          have F45 : (wz.alloc (rep hz gz2 gz3 1 sz)).cell? ⟨gx3, 0, none⟩ = some (.bool f0) := repG_d kx hx9 (t := 0) (by simp)
          have F46 : (wz.alloc (rep hz gz2 gz3 1 sz)).cell? ⟨gx3, 1, none⟩ = some (.bool f1) := repG_d kx hx9 (t := 1) (by simp)
          have F47 : (wz.alloc (rep hz gz2 gz3 1 sz)).cell? ⟨gy3, 0, none⟩ = some (.bool f0) := repG_d ky hy9 (t := 0) (by simp)
          have F48 : (wz.alloc (rep hz gz2 gz3 1 sz)).cell? ⟨gz3, 0, none⟩ = some (.bool f1) := repG_d kz hz9 (t := 0) (by simp)
          have hsum : (sx : Int) = (sy : Int) + (sz : Int) := by omega
          clear kx ky kz hx9 hy9 hz9 ox oy hb9 hb5 hb5r hRz hbz ho1 ho2 e1 e2 e3 e4 e5 e6 e7 e8 hf0 hf1 hst hsx hsy2 hsz2
          have eqp := eqArr p0 p1 p2 p3 p4 p5 p6 p7
          have eqq := eqArr q0 q1 q2 q3 q4 q5 q6 q7
          have gd8 := guard8
          go_wp2_with fail
          dsimp only [List.append]
          go_quiet (fail)
          have HB10 : Hid (Below w.heap.size w ((wz.alloc (rep hz gz2 gz3 1 sz)).drewN nq)) := HB9.out.trans ((below_drewN _ nq).mono HB9.out.size)
          go_wp2_with fail
          go_ret
          exact ⟨rfl, HB10.out⟩
      · have hgI : ¬ (n : Int) < (ps.length : Int) := by omega
        go_wp2_with fail
        obtain ⟨P, F, G, htri, hpl, hfl, hgl, hpa, hfa, hga, hrl⟩ := HST.out.ex
        obtain ⟨X, hX⟩ : ∃ X, (Sys.start [A', B'] [3, 4]).run [A', B'] P = X := ⟨_, rfl⟩
        obtain ⟨Y, hY⟩ : ∃ Y, (Sys.start [A'] [3, 4]).run [A'] F = Y := ⟨_, rfl⟩
        obtain ⟨Z, hZ⟩ : ∃ Z, (Sys.start [B'] [3, 4]).run [B'] G = Z := ⟨_, rfl⟩
        have hsy : Y.steps ≤ 300 := by
          have := Sys.run_steps [A'] F (Sys.start [A'] [3, 4])
          rw [hY] at this
          have h0 : (Sys.start [A'] [3, 4]).steps = 0 := rfl
          omega
        have hsz : Z.steps ≤ 300 := by
          have := Sys.run_steps [B'] G (Sys.start [B'] [3, 4])
          rw [hZ] at this
          have h0 : (Sys.start [B'] [3, 4]).steps = 0 := rfl
          omega
        rw [hX, hY, hZ] at hrl
        have HX : Hid ((Sys.start [A', B'] [3, 4]).run [A', B'] P = X) := hX
        have HY : Hid ((Sys.start [A'] [3, 4]).run [A'] F = Y) := hY
        have HZ : Hid ((Sys.start [B'] [3, 4]).run [B'] G = Z) := hZ
        have HEx : Hid (runE [A', B'] 2 P = 0) := noE (by
          intro L hL
          simp only [List.mem_cons, List.not_mem_nil, or_false] at hL
          rcases hL with rfl | rfl
          · exact HOv.out.2.2.1
          · exact HOv.out.2.2.2) (by simp) (by omega) hpa
        have HEy : Hid (runE [A'] 2 F = 0) := noE (fun L hL => by rw [List.mem_singleton.1 hL]; exact HOv.out.2.2.1) (by simp) (by omega) (fun q hq => by rw [hfa q hq]; simp)
        have HEz : Hid (runE [B'] 2 G = 0) := noE (fun L hL => by rw [List.mem_singleton.1 hL]; exact HOv.out.2.2.2) (by simp) (by omega) (fun q hq => by rw [hga q hq]; simp)
        have HTri : Hid (Tri u0 wr u12 u13 u14 P F G) := htri
        have HPr : Hid (IntsAt wr u12 P ∧ IntsAt wr u13 F ∧ IntsAt wr u14 G) := ⟨own_slice (en := ei) (n := 1) (fun _ => rfl) htri.o1, own_slice (en := ei) (n := 1) (fun _ => rfl) htri.o2, own_slice (en := ei) (n := 1) (fun _ => rfl) htri.o3⟩
        have hb1 : Below wr.heap.size wr ((wr.alloc (.cells #[.slice a1 A.length c1, .slice a2 B.length c2] 43)).alloc oC) := ((Below.refl _ _).alloc (Nat.le_refl _) _).alloc (by simp) _
        have HS1r : Hid (SliceAt wr (.slice a1 A.length c1) 4 InsV.en A') := HS1'.out.below htri.below
        have HS2r : Hid (SliceAt wr (.slice a2 B.length c2) 4 InsV.en B') := HS2.out.below htri.below
        have HBr : Hid (Below w.heap.size w wr) := HB4.out.trans (htri.below.mono HB4.out.size)
        have ho1 : ((wr.alloc (.cells #[.slice a1 A.length c1, .slice a2 B.length c2] 43)).alloc oC).heap[wr.heap.size]? = some (.cells #[.slice a1 A.length c1, .slice a2 B.length c2] 43) := by rw [heap_alloc, if_neg (by simp), heap_new]
        have ho2 : ((wr.alloc (.cells #[.slice a1 A.length c1, .slice a2 B.length c2] 43)).alloc oC).heap[wr.heap.size + 1]? = some oC := by
          have := heap_new (wr.alloc (.cells #[.slice a1 A.length c1, .slice a2 B.length c2] 43)) oC
          rw [World.size_alloc] at this
          exact this
        have HRl : Hid (Rel X Y Z) := hrl
        clear hX hY hZ hpa hfa hga htri hrl hpl hfl hgl HST HTri
        refine (run_two (X := X) (tasks2 ho1 (HS1r.out.below hb1) (HS2r.out.below hb1)) (cells34 ho2) (HPr.out.1.below hb1) HEx.out HX.out).mono ?_
        rintro e wx ⟨hx, gx2, gx3, rfl, hRx, hbx⟩
        obtain ⟨sx, hsx⟩ : ∃ s, X.steps = s := ⟨_, rfl⟩
        rw [hsx]
        have hbx2 : Below wr.heap.size wr (wx.alloc (rep hx gx2 gx3 2 sx)) := ((hb1.trans (hbx.mono hb1.size)).alloc (by have := hb1.size; have := hbx.size; omega) _)
        have HBx2 : Hid (Below wr.heap.size wr (wx.alloc (rep hx gx2 gx3 2 sx))) := hbx2
        have HRx : Hid (RepG wx hx gx2 gx3 X.c (X.ms.map Mc.r) (donesOf [A', B'] X.ms)) := hRx
        have HWx : Hid (Below wx.heap.size wx (wx.alloc (rep hx gx2 gx3 2 sx))) := (Below.refl _ _).alloc (Nat.le_refl _) _
        have HOx : Hid ((wx.alloc (rep hx gx2 gx3 2 sx)).heap[wx.heap.size]? = some (rep hx gx2 gx3 2 sx)) := heap_new wx _
        clear hRx hbx hbx2 hb1 ho1 ho2
        go_wp2_with fail
        have hb3 : Below (wx.alloc (rep hx gx2 gx3 2 sx)).heap.size (wx.alloc (rep hx gx2 gx3 2 sx)) (((wx.alloc (rep hx gx2 gx3 2 sx)).alloc (.cells #[.slice a1 A.length c1] 43)).alloc oC) := ((Below.refl _ _).alloc (Nat.le_refl _) _).alloc (by simp) _
        have ho1 : (((wx.alloc (rep hx gx2 gx3 2 sx)).alloc (.cells #[.slice a1 A.length c1] 43)).alloc oC).heap[(wx.alloc (rep hx gx2 gx3 2 sx)).heap.size]? = some (.cells #[.slice a1 A.length c1] 43) := by rw [heap_alloc, if_neg (by simp), heap_new]
        have ho2 : (((wx.alloc (rep hx gx2 gx3 2 sx)).alloc (.cells #[.slice a1 A.length c1] 43)).alloc oC).heap[(wx.alloc (rep hx gx2 gx3 2 sx)).heap.size + 1]? = some oC := by
          have := heap_new ((wx.alloc (rep hx gx2 gx3 2 sx)).alloc (.cells #[.slice a1 A.length c1] 43)) oC
          rw [World.size_alloc] at this
          exact this
        have hb3r : Below wr.heap.size wr (((wx.alloc (rep hx gx2 gx3 2 sx)).alloc (.cells #[.slice a1 A.length c1] 43)).alloc oC) := HBx2.out.trans (hb3.mono HBx2.out.size)
        rw [World.size_alloc] at ho1 ho2
        refine (run_one (X := Y) (tasks1 ho1 (HS1r.out.below hb3r)) (cells34 ho2) (HPr.out.2.1.below hb3r) HEy.out HY.out).mono ?_
        rintro e wy ⟨hy, gy2, gy3, rfl, hRy, hby⟩
        obtain ⟨sy, hsy2⟩ : ∃ s, Y.steps = s := ⟨_, rfl⟩
        rw [hsy2] at hsy ⊢
        have hb3y : Below (wx.alloc (rep hx gx2 gx3 2 sx)).heap.size (wx.alloc (rep hx gx2 gx3 2 sx)) (wy.alloc (rep hy gy2 gy3 1 sy)) := ((hb3.trans (hby.mono hb3.size)).alloc (by have := hb3.size; have := hby.size; omega) _)
        have HBy4 : Hid (Below wr.heap.size wr (wy.alloc (rep hy gy2 gy3 1 sy))) := HBx2.out.trans (hb3y.mono HBx2.out.size)
        have HWx4 : Hid (Below wx.heap.size wx (wy.alloc (rep hy gy2 gy3 1 sy))) := HWx.out.trans (hb3y.mono HWx.out.size)
        have HOx4 : Hid ((wy.alloc (rep hy gy2 gy3 1 sy)).heap[wx.heap.size]? = some (rep hx gx2 gx3 2 sx)) := (hb3y.block _ (lt_of HOx.out)).trans HOx.out
        have HRy : Hid (RepG wy hy gy2 gy3 Y.c (Y.ms.map Mc.r) (donesOf [A'] Y.ms)) := hRy
        have HWy : Hid (Below wy.heap.size wy (wy.alloc (rep hy gy2 gy3 1 sy))) := (Below.refl _ _).alloc (Nat.le_refl _) _
        have HOy : Hid ((wy.alloc (rep hy gy2 gy3 1 sy)).heap[wy.heap.size]? = some (rep hy gy2 gy3 1 sy)) := heap_new wy _
        clear hRy hby hb3 hb3y hb3r ho1 ho2 HBx2 HWx HOx
        go_wp2_with fail
        have hb5 : Below (wy.alloc (rep hy gy2 gy3 1 sy)).heap.size (wy.alloc (rep hy gy2 gy3 1 sy)) (((wy.alloc (rep hy gy2 gy3 1 sy)).alloc (.cells #[.slice a2 B.length c2] 43)).alloc oC) := ((Below.refl _ _).alloc (Nat.le_refl _) _).alloc (by simp) _
        have ho1 : (((wy.alloc (rep hy gy2 gy3 1 sy)).alloc (.cells #[.slice a2 B.length c2] 43)).alloc oC).heap[(wy.alloc (rep hy gy2 gy3 1 sy)).heap.size]? = some (.cells #[.slice a2 B.length c2] 43) := by rw [heap_alloc, if_neg (by simp), heap_new]
        have ho2 : (((wy.alloc (rep hy gy2 gy3 1 sy)).alloc (.cells #[.slice a2 B.length c2] 43)).alloc oC).heap[(wy.alloc (rep hy gy2 gy3 1 sy)).heap.size + 1]? = some oC := by
          have := heap_new ((wy.alloc (rep hy gy2 gy3 1 sy)).alloc (.cells #[.slice a2 B.length c2] 43)) oC
          rw [World.size_alloc] at this
          exact this
        have hb5r : Below wr.heap.size wr (((wy.alloc (rep hy gy2 gy3 1 sy)).alloc (.cells #[.slice a2 B.length c2] 43)).alloc oC) := HBy4.out.trans (hb5.mono HBy4.out.size)
        rw [World.size_alloc] at ho1 ho2
        refine (run_one (X := Z) (tasks1 ho1 (HS2r.out.below hb5r)) (cells34 ho2) (HPr.out.2.2.below hb5r) HEz.out HZ.out).mono ?_
        rintro e wz ⟨hz, gz2, gz3, rfl, hRz, hbz⟩
        obtain ⟨sz, hsz2⟩ : ∃ s, Z.steps = s := ⟨_, rfl⟩
        rw [hsz2] at hsz ⊢
        have hb9 : Below (wy.alloc (rep hy gy2 gy3 1 sy)).heap.size (wy.alloc (rep hy gy2 gy3 1 sy)) (wz.alloc (rep hz gz2 gz3 1 sz)) := ((hb5.trans (hbz.mono hb5.size)).alloc (by have := hb5.size; have := hbz.size; omega) _)
        have HB9 : Hid (Below w.heap.size w (wz.alloc (rep hz gz2 gz3 1 sz))) := HBr.out.trans ((HBy4.out.trans (hb9.mono HBy4.out.size)).mono HBr.out.size)
        have hx9 : Below wx.heap.size wx (wz.alloc (rep hz gz2 gz3 1 sz)) := HWx4.out.trans (hb9.mono HWx4.out.size)
        have hy9 : Below wy.heap.size wy (wz.alloc (rep hz gz2 gz3 1 sz)) := HWy.out.trans (hb9.mono HWy.out.size)
        have hz9 : Below wz.heap.size wz (wz.alloc (rep hz gz2 gz3 1 sz)) := (Below.refl _ _).alloc (Nat.le_refl _) _
        have ox : (wz.alloc (rep hz gz2 gz3 1 sz)).heap[wx.heap.size]? = some (rep hx gx2 gx3 2 sx) := (hb9.block _ (lt_of HOx4.out)).trans HOx4.out
        have oy : (wz.alloc (rep hz gz2 gz3 1 sz)).heap[wy.heap.size]? = some (rep hy gy2 gy3 1 sy) := (hb9.block _ (lt_of HOy.out)).trans HOy.out
        obtain ⟨⟨⟨m0r, m0p⟩, ⟨m1r, m1p⟩, d0, d1, e1, e2, e3, e4, e5, e6, e7, e8⟩, hst⟩ := HRl.out
        obtain ⟨p0, p1, p2, p3, p4, p5, p6, p7, hp8⟩ := list8 e7
        obtain ⟨q0, q1, q2, q3, q4, q5, q6, q7, hq8⟩ := list8 e8
        dsimp only at hp8 hq8
        subst hp8 hq8
        rw [hsx, hsy2, hsz2] at hst
        obtain ⟨f0, hf0⟩ : ∃ f, doneOf A' ⟨[p0, p1, p2, p3, p4, p5, p6, p7], m0p⟩ = f := ⟨_, rfl⟩
        obtain ⟨f1, hf1⟩ : ∃ f, doneOf B' ⟨[q0, q1, q2, q3, q4, q5, q6, q7], m1p⟩ = f := ⟨_, rfl⟩
        have kx : RepG wx hx gx2 gx3 [d0, d1] [[p0, p1, p2, p3, p4, p5, p6, p7], [q0, q1, q2, q3, q4, q5, q6, q7]] [f0, f1] := by
          have := HRx.out
          rw [e1, e2] at this
          rw [← hf0, ← hf1]
          exact this
        have ky : RepG wy hy gy2 gy3 [d0, 4] [[p0, p1, p2, p3, p4, p5, p6, p7]] [f0] := by
          have := HRy.out
          rw [e3, e4] at this
          rw [← hf0]
          exact this
        have kz : RepG wz hz gz2 gz3 [3, d1] [[q0, q1, q2, q3, q4, q5, q6, q7]] [f1] := by
          have := hRz
          rw [e5, e6] at this
          rw [← hf1]
          exact this
        have F1 : (wz.alloc (rep hz gz2 gz3 1 sz)).cell? ⟨wx.heap.size, 0, none⟩ = some (.slice (some ⟨hx, 0, none⟩) 2 2) := by rw [cell_of ox]; rfl
        have F2 : (wz.alloc (rep hz gz2 gz3 1 sz)).cell? ⟨wx.heap.size, 1, none⟩ = some (.slice (some ⟨gx2, 0, none⟩) 2 2) := by rw [cell_of ox]; rfl
        have F3 : (wz.alloc (rep hz gz2 gz3 1 sz)).cell? ⟨wx.heap.size, 2, none⟩ = some (.slice (some ⟨gx3, 0, none⟩) 2 2) := by rw [cell_of ox]; rfl
        have F4 : (wz.alloc (rep hz gz2 gz3 1 sz)).cell? ⟨wx.heap.size, 3, none⟩ = some (.int .i64 (sx : Int)) := by rw [cell_of ox]; rfl
        have F5 : (wz.alloc (rep hz gz2 gz3 1 sz)).cell? ⟨wy.heap.size, 0, none⟩ = some (.slice (some ⟨hy, 0, none⟩) 2 2) := by rw [cell_of oy]; rfl
        have F6 : (wz.alloc (rep hz gz2 gz3 1 sz)).cell? ⟨wy.heap.size, 1, none⟩ = some (.slice (some ⟨gy2, 0, none⟩) 1 1) := by rw [cell_of oy]; rfl
        have F7 : (wz.alloc (rep hz gz2 gz3 1 sz)).cell? ⟨wy.heap.size, 2, none⟩ = some (.slice (some ⟨gy3, 0, none⟩) 1 1) := by rw [cell_of oy]; rfl
        have F8 : (wz.alloc (rep hz gz2 gz3 1 sz)).cell? ⟨wy.heap.size, 3, none⟩ = some (.int .i64 (sy : Int)) := by rw [cell_of oy]; rfl
        have F9 : (wz.alloc (rep hz gz2 gz3 1 sz)).cell? ⟨gx2, 0, none⟩ = some (.int .u64 p0) := repG_r kx hx9 (t := 0) (i := 0) (by simp) (by omega)
        have F10 : (wz.alloc (rep hz gz2 gz3 1 sz)).cell? ⟨gx2, 1, none⟩ = some (.int .u64 p1) := repG_r kx hx9 (t := 0) (i := 1) (by simp) (by omega)
        have F11 : (wz.alloc (rep hz gz2 gz3 1 sz)).cell? ⟨gx2, 2, none⟩ = some (.int .u64 p2) := repG_r kx hx9 (t := 0) (i := 2) (by simp) (by omega)
        have F12 : (wz.alloc (rep hz gz2 gz3 1 sz)).cell? ⟨gx2, 3, none⟩ = some (.int .u64 p3) := repG_r kx hx9 (t := 0) (i := 3) (by simp) (by omega)
        have F13 : (wz.alloc (rep hz gz2 gz3 1 sz)).cell? ⟨gx2, 4, none⟩ = some (.int .u64 p4) := repG_r kx hx9 (t := 0) (i := 4) (by simp) (by omega)
        have F14 : (wz.alloc (rep hz gz2 gz3 1 sz)).cell? ⟨gx2, 5, none⟩ = some (.int .u64 p5) := repG_r kx hx9 (t := 0) (i := 5) (by simp) (by omega)
        have F15 : (wz.alloc (rep hz gz2 gz3 1 sz)).cell? ⟨gx2, 6, none⟩ = some (.int .u64 p6) := repG_r kx hx9 (t := 0) (i := 6) (by simp) (by omega)
        have F16 : (wz.alloc (rep hz gz2 gz3 1 sz)).cell? ⟨gx2, 7, none⟩ = some (.int .u64 p7) := repG_r kx hx9 (t := 0) (i := 7) (by simp) (by omega)
        have F17 : (wz.alloc (rep hz gz2 gz3 1 sz)).cell? ⟨gx2, 8, none⟩ = some (.int .u64 q0) := repG_r kx hx9 (t := 1) (i := 0) (by simp) (by omega)
        have F18 : (wz.alloc (rep hz gz2 gz3 1 sz)).cell? ⟨gx2, 9, none⟩ = some (.int .u64 q1) := repG_r kx hx9 (t := 1) (i := 1) (by simp) (by omega)
        have F19 : (wz.alloc (rep hz gz2 gz3 1 sz)).cell? ⟨gx2, 10, none⟩ = some (.int .u64 q2) := repG_r kx hx9 (t := 1) (i := 2) (by simp) (by omega)
        have F20 : (wz.alloc (rep hz gz2 gz3 1 sz)).cell? ⟨gx2, 11, none⟩ = some (.int .u64 q3) := repG_r kx hx9 (t := 1) (i := 3) (by simp) (by omega)
        have F21 : (wz.alloc (rep hz gz2 gz3 1 sz)).cell? ⟨gx2, 12, none⟩ = some (.int .u64 q4) := repG_r kx hx9 (t := 1) (i := 4) (by simp) (by omega)
        have F22 : (wz.alloc (rep hz gz2 gz3 1 sz)).cell? ⟨gx2, 13, none⟩ = some (.int .u64 q5) := repG_r kx hx9 (t := 1) (i := 5) (by simp) (by omega)
        have F23 : (wz.alloc (rep hz gz2 gz3 1 sz)).cell? ⟨gx2, 14, none⟩ = some (.int .u64 q6) := repG_r kx hx9 (t := 1) (i := 6) (by simp) (by omega)
        have F24 : (wz.alloc (rep hz gz2 gz3 1 sz)).cell? ⟨gx2, 15, none⟩ = some (.int .u64 q7) := repG_r kx hx9 (t := 1) (i := 7) (by simp) (by omega)
        have F25 : (wz.alloc (rep hz gz2 gz3 1 sz)).cell? ⟨gy2, 0, none⟩ = some (.int .u64 p0) := repG_r ky hy9 (t := 0) (i := 0) (by simp) (by omega)
        have F26 : (wz.alloc (rep hz gz2 gz3 1 sz)).cell? ⟨gy2, 1, none⟩ = some (.int .u64 p1) := repG_r ky hy9 (t := 0) (i := 1) (by simp) (by omega)
        have F27 : (wz.alloc (rep hz gz2 gz3 1 sz)).cell? ⟨gy2, 2, none⟩ = some (.int .u64 p2) := repG_r ky hy9 (t := 0) (i := 2) (by simp) (by omega)
        have F28 : (wz.alloc (rep hz gz2 gz3 1 sz)).cell? ⟨gy2, 3, none⟩ = some (.int .u64 p3) := repG_r ky hy9 (t := 0) (i := 3) (by simp) (by omega)
        have F29 : (wz.alloc (rep hz gz2 gz3 1 sz)).cell? ⟨gy2, 4, none⟩ = some (.int .u64 p4) := repG_r ky hy9 (t := 0) (i := 4) (by simp) (by omega)
        have F30 : (wz.alloc (rep hz gz2 gz3 1 sz)).cell? ⟨gy2, 5, none⟩ = some (.int .u64 p5) := repG_r ky hy9 (t := 0) (i := 5) (by simp) (by omega)
        have F31 : (wz.alloc (rep hz gz2 gz3 1 sz)).cell? ⟨gy2, 6, none⟩ = some (.int .u64 p6) := repG_r ky hy9 (t := 0) (i := 6) (by simp) (by omega)
        have F32 : (wz.alloc (rep hz gz2 gz3 1 sz)).cell? ⟨gy2, 7, none⟩ = some (.int .u64 p7) := repG_r ky hy9 (t := 0) (i := 7) (by simp) (by omega)
        have F33 : (wz.alloc (rep hz gz2 gz3 1 sz)).cell? ⟨gz2, 0, none⟩ = some (.int .u64 q0) := repG_r kz hz9 (t := 0) (i := 0) (by simp) (by omega)
        have F34 : (wz.alloc (rep hz gz2 gz3 1 sz)).cell? ⟨gz2, 1, none⟩ = some (.int .u64 q1) := repG_r kz hz9 (t := 0) (i := 1) (by simp) (by omega)
        have F35 : (wz.alloc (rep hz gz2 gz3 1 sz)).cell? ⟨gz2, 2, none⟩ = some (.int .u64 q2) := repG_r kz hz9 (t := 0) (i := 2) (by simp) (by omega)
        have F36 : (wz.alloc (rep hz gz2 gz3 1 sz)).cell? ⟨gz2, 3, none⟩ = some (.int .u64 q3) := repG_r kz hz9 (t := 0) (i := 3) (by simp) (by omega)
        have F37 : (wz.alloc (rep hz gz2 gz3 1 sz)).cell? ⟨gz2, 4, none⟩ = some (.int .u64 q4) := repG_r kz hz9 (t := 0) (i := 4) (by simp) (by omega)
        have F38 : (wz.alloc (rep hz gz2 gz3 1 sz)).cell? ⟨gz2, 5, none⟩ = some (.int .u64 q5) := repG_r kz hz9 (t := 0) (i := 5) (by simp) (by omega)
        have F39 : (wz.alloc (rep hz gz2 gz3 1 sz)).cell? ⟨gz2, 6, none⟩ = some (.int .u64 q6) := repG_r kz hz9 (t := 0) (i := 6) (by simp) (by omega)
        have F40 : (wz.alloc (rep hz gz2 gz3 1 sz)).cell? ⟨gz2, 7, none⟩ = some (.int .u64 q7) := repG_r kz hz9 (t := 0) (i := 7) (by simp) (by omega)
        have F41 : (wz.alloc (rep hz gz2 gz3 1 sz)).cell? ⟨hx, 0, none⟩ = some (.int .u64 d0) := repG_c kx hx9 (i := 0) (by simp)
        have F42 : (wz.alloc (rep hz gz2 gz3 1 sz)).cell? ⟨hx, 1, none⟩ = some (.int .u64 d1) := repG_c kx hx9 (i := 1) (by simp)
        have F43 : (wz.alloc (rep hz gz2 gz3 1 sz)).cell? ⟨hy, 0, none⟩ = some (.int .u64 d0) := repG_c ky hy9 (i := 0) (by simp)
        have F44 : (wz.alloc (rep hz gz2 gz3 1 sz)).cell? ⟨hz, 1, none⟩ = some (.int .u64 d1) := repG_c kz hz9 (i := 1) (by simp)
        have F45 : (wz.alloc (rep hz gz2 gz3 1 sz)).cell? ⟨gx3, 0, none⟩ = some (.bool f0) := repG_d kx hx9 (t := 0) (by simp)
        have F46 : (wz.alloc (rep hz gz2 gz3 1 sz)).cell? ⟨gx3, 1, none⟩ = some (.bool f1) := repG_d kx hx9 (t := 1) (by simp)
        have F47 : (wz.alloc (rep hz gz2 gz3 1 sz)).cell? ⟨gy3, 0, none⟩ = some (.bool f0) := repG_d ky hy9 (t := 0) (by simp)
        have F48 : (wz.alloc (rep hz gz2 gz3 1 sz)).cell? ⟨gz3, 0, none⟩ = some (.bool f1) := repG_d kz hz9 (t := 0) (by simp)
        have hsum : (sx : Int) = (sy : Int) + (sz : Int) := by omega
        clear kx ky kz hx9 hy9 hz9 ox oy hb9 hb5 hb5r hRz hbz ho1 ho2 e1 e2 e3 e4 e5 e6 e7 e8 hf0 hf1 hst hsx hsy2 hsz2
        have eqp := eqArr p0 p1 p2 p3 p4 p5 p6 p7
        have eqq := eqArr q0 q1 q2 q3 q4 q5 q6 q7
        have gd8 := guard8
        go_wp2_with fail
        dsimp only [List.append]
        go_quiet (fail)
        have HB10 : Hid (Below w.heap.size w ((wz.alloc (rep hz gz2 gz3 1 sz)).drewN nq)) := HB9.out.trans ((below_drewN _ nq).mono HB9.out.size)
        go_wp2_with fail
        go_ret
        exact ⟨rfl, HB10.out⟩
  · have hzb : (z3 != 0) = true := by rw [bne_iff_ne]; exact hz3
    clear hz hz3
    go_wp2_with fail
    go_ret
    exact ⟨rfl, HB2.out⟩
end Apart

end Go.Proofs.Ytibgpjokdpagcaa
