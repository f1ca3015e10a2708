/- Crash: the walk. -/
import Derived.Test.YtbiombolpfhdlaaCrash
namespace Go.Proofs.Ytbiombolpfhdlaa
open Go.RowKit Go.Maps

section
variable {d m : Nat} {G : List (List UInt8 × Gc)} {s : Dk.Dsk}

/-- the next draw, and the others -/
theorem DrawsAt.next {w : World} {S : Nat → Prop} {v : Value} {x : Int} {r : List Int} (h : DrawsAt w S v (x :: r)) :
    ∃ b off c, v = .slice (some ⟨b, off, none⟩) (r.length + 1) (c + 1) ∧ r.length ≤ c ∧ c + 1 ≤ maxLen ∧ b < w.heap.size ∧ ¬ S b ∧ w.cell? ⟨b, off, none⟩ = some (.int .i64 x) ∧
      DrawsAt w S (.slice (if c = 0 then some ⟨b, off, none⟩ else some ⟨b, off + 1, none⟩) r.length c) r ∧ x ≤ 9223372036854775807 := by
  obtain ⟨a, c, h1, h2, h3, h4, h5⟩ := h
  obtain ⟨b, off, rfl, hb, hS, hc⟩ := h4 (by simp)
  simp only [List.length_cons] at h1 h2 hc
  obtain ⟨c', rfl⟩ : ∃ c', c = c' + 1 := ⟨c - 1, by omega⟩
  have h0 := hc 0 (by omega)
  rw [Nat.add_zero] at h0
  refine ⟨b, off, c', h1, by omega, h3, hb, hS, h0, ⟨_, c', rfl, by omega, by omega, fun hr => ?_, fun y hy => h5 y (by simp [hy])⟩, h5 x (by simp)⟩
  have hlen : 0 < r.length := List.length_pos_iff.2 hr
  refine ⟨b, off + 1, by rw [if_neg (by omega)], hb, hS, fun i hi => ?_⟩
  have := hc (i + 1) (by omega)
  rw [show off + 1 + i = off + (i + 1) from by omega, this]
  simp

set_option maxHeartbeats 1000000 in
theorem crash_none (v : Value) (ds : List Int) (w : World) (h : DiskG Try.prog w d m [] s) (hd : DrawsAt w (foot d m []) v ds) (hl : ds.length ≤ 4096) :
    Calls Try.prog 20 #[.pointer (some ⟨d, 0, none⟩), v] w fun e w' => e = .returned (.int .i64 (Dk.crashE ds)) ∧ Goes w w' d m [] (Dk.crashS s ds) := by
  have H : Hid (DiskG Try.prog w d m [] s) := h
  obtain ⟨a, c, rfl, -, hc, -⟩ := hd
  have HS : Hid (sUp s = Dk.crashS s ds) := by
    show _ = _
    unfold Dk.crashS sUp
    rw [if_neg (by omega), show s.fs = [] from h.fs]
    rfl
  rw [show Dk.crashE ds = 0 from by unfold Dk.crashE; rw [if_neg (by omega)]]
  unfold maxLen at hc
  have hl' : ¬ (4096 : Int) < (ds.length : Int) := by omega
  obtain ⟨c0, c1, c2, c3⟩ := h.cells
  simp only [Nat.zero_add] at c1 c2 c3
  have f1 := frozen_of h.top 1
  have f2 := frozen_of h.top 2
  have f3 := frozen_of h.top 3
  have HN := names_up_none h
  unfold wUp at HN
  have HN' : Hid (Calls Try.prog 34 #[.pointer (some ⟨d, 0, none⟩)] (((w.setCell ⟨d, 1, none⟩ (.bool false)).setCell ⟨d, 2, none⟩ (.bool false)).setCell ⟨d, 3, none⟩ (.int .i64 0)) fun e w1 => ∃ a c, e = .returned (.slice a 0 c) ∧ DiskG Try.prog w1 d m [] (sUp s) ∧ Turn (fun i => i = d) w w1) := HN
  clear h hl HN
  go_enter Try.func20, Try.ntmps20
  go_wp2_with (go_at_call 34; refine HN'.out.mono ?_; rintro e w1 ⟨a2, c2, rfl, hD, ht⟩)
  go_loopw [24] (fun i wr => i = .int .i64 0 ∧ wr = w1) (fun _ _ => 0)
  case atStart => exact ⟨rfl, rfl⟩
  case round =>
    obtain ⟨rfl, rfl⟩ := hrel
    go_wp2
    go_ret
    exact ⟨rfl, HS.out ▸ Goes.top hD ht⟩

theorem rest_run (b off n c : Nat) (_h : n ≤ c) (W : World) :
    (Instr.slice 29 (.slice (some ⟨b, off, none⟩) (n + 1) (c + 1)) (some (.int .i64 1)) none none).run Try.prog W = .ok (.slice (if c = 0 then some ⟨b, off, none⟩ else some ⟨b, off + 1, none⟩) n c) W := by
  have hz : ∀ W, (sizeOf 3).run Try.prog W = .ok 1 W := fun W => by kernel_rfl
  have h1 : (1 : Int) ≤ ((n : Int) + 1) := by omega
  simp [Instr.slice, run_underlying Try.underlying29, Instr.sliceBounds, run_sliceBound, h1, hz, Result.andThen, Addr.add_lit]

theorem wUp_def (w : World) (d : Nat) : wUp w d = ((w.setCell ⟨d, 1, none⟩ (.bool false)).setCell ⟨d, 2, none⟩ (.bool false)).setCell ⟨d, 3, none⟩ (.int .i64 0) := rfl

set_option maxRecDepth 100000 in
set_option maxHeartbeats 2000000 in
theorem crash_some (v : Value) (ds : List Int) (w : World) (h : DiskG Try.prog w d m G s) (hd : DrawsAt w (foot d m G) v ds) (hl : ds.length ≤ 4096) (hp : 0 < G.length) :
    Calls Try.prog 20 #[.pointer (some ⟨d, 0, none⟩), v] w fun e w' => e = .returned (.int .i64 (Dk.crashE ds)) ∧ Goes w w' d m G (Dk.crashS s ds) := by
  have H : Hid (DiskG Try.prog w d m G s) := h
  have HD : Hid (DrawsAt w (foot d m G) v ds) := hd
  have HLen : Hid (s.fs.length = G.length) := h.len_fs
  have HNm : Hid (∀ j, (hj : j < G.length) → (hj' : j < s.fs.length) → (G[j]).1 = (s.fs[j]).1) := by
    intro j hj hj'
    have := congrArg (fun l : List (List UInt8 × Dk.Fil) => l[j]?) h.fs
    simp only [List.getElem?_eq_getElem hj', Dk.mapL, List.getElem?_map, List.getElem?_eq_getElem hj, Option.map_some, Option.some.injEq] at this
    rw [this]
  obtain ⟨a, c, hv, -, hc, -, -⟩ := hd
  have hn64 := h.few
  have HE : Hid (Dk.crashE ds = 0) := by show _ = _; unfold Dk.crashE; rw [if_neg (by omega)]
  have HS : Hid (sMid s ds G.length = Dk.crashS s ds) := by
    show _ = _
    unfold Dk.crashS sMid
    rw [if_neg (by omega), Dk.midL_all _ _ _ (by rw [HLen.out]; exact Nat.le_refl _)]
  rw [HE.out]
  unfold maxLen at hc
  have hl' : ¬ (4096 : Int) < (ds.length : Int) := by omega
  obtain ⟨c0, c1, c2, c3⟩ := h.cells
  simp only [Nat.zero_add] at c1 c2 c3
  have f1 := frozen_of h.top 1
  have f2 := frozen_of h.top 2
  have f3 := frozen_of h.top 3
  have HN := names_up h hp
  have HN' : Hid (Calls Try.prog 34 #[.pointer (some ⟨d, 0, none⟩)] (((w.setCell ⟨d, 1, none⟩ (.bool false)).setCell ⟨d, 2, none⟩ (.bool false)).setCell ⟨d, 3, none⟩ (.int .i64 0)) fun e w1 => ∃ gb cap, e = .returned (.slice (some ⟨gb, 0, none⟩) G.length cap) ∧ G.length ≤ cap ∧ cap ≤ maxLen ∧ (∀ j, (hj : j < G.length) → w1.cell? ⟨gb, j, none⟩ = some (Go.Proofs.encStr (G[j]).1)) ∧
      w.heap.size ≤ gb ∧ gb < w1.heap.size ∧ DiskG Try.prog w1 d m G (sUp s) ∧ Turn (fun i => i = d) w w1) := HN
  clear h hl HN
  subst hv
  go_enter Try.func20, Try.ntmps20
  go_wp2_with (go_at_call 34; refine HN'.out.mono ?_; rintro e w1 ⟨gb, cap, rfl, hcap, hcapm, hnames, hgb, hgb1, hD, ht⟩; have HNa : Hid (∀ j, (hj : j < G.length) → w1.cell? ⟨gb, j, none⟩ = some (Go.Proofs.encStr (G[j]).1)) := hnames; clear hnames)
  have HD1 : Hid (DrawsAt w1 (foot d m G) (.slice a ds.length c) ds) := HD.out.kept (ht.mono (fun _ hi => Or.inl hi))
  have HG1 : Hid (Goes w1 w1 d m G (sMid s ds 0)) := Goes.stay hD
  have hngb : ¬ foot d m G gb := fun hf => by have := H.out.lt hf; omega
  unfold maxLen at hcapm
  clear c0 c1 c2 c3 f1 f2 f3
  go_loopw [1, 24] (fun v i wr => ∃ j : Nat, j ≤ G.length ∧ i = .int .i64 j ∧ DrawsAt w1 (foot d m G) v (Dk.restD (s.fs.take j) ds) ∧ Goes w1 wr d m G (sMid s ds j)) (fun _ i _ => G.length - (intOf i).toNat)
  case atStart => exact ⟨0, Nat.zero_le _, rfl, HD1.out, HG1.out⟩
  case round =>
    obtain ⟨j, hj, rfl, hdr, hgo⟩ := hrel
    have HDr : Hid (DrawsAt w1 (foot d m G) u1 (Dk.restD (s.fs.take j) ds)) := hdr
    have HGo : Hid (Goes w1 wr d m G (sMid s ds j)) := hgo
    clear hdr hgo
    by_cases hlt : j < G.length
    · obtain ⟨G', h1, h2, h3⟩ := HGo.out
      have hj' : j < s.fs.length := by rw [HLen.out]; exact hlt
      have hget := Dk.mid_get hj' (show Dk.Rise (Dk.midL s.fs ds j) from h1.riseF)
      have hget' : (Dk.getL (s.fs[j]).1 G').map Gc.fil = some (s.fs[j]).2 := (h1.getL_fs _).symm.trans hget
      obtain ⟨g, hg, hgf⟩ := Option.map_eq_some_iff.1 hget'
      have hf := h1.files _ (Dk.getL_mem hg)
      have c0 := h1.cells.1
      obtain ⟨k, hkd, hke⟩ : ∃ k : ByteArray, k.data.toList = (s.fs[j]).1 ∧ Go.Proofs.encStr (s.fs[j]).1 = .string k := ⟨⟨(s.fs[j]).1.toArray⟩, by simp, rfl⟩
      have hnm : wr.cell? ⟨gb, j, none⟩ = some (.string k) := by
        have e1 := HNa.out j hlt
        rw [HNm.out j hlt hj', hke] at e1
        exact (World.cell?_of_block (w := w1) (a := ⟨gb, j, none⟩) (h2.block gb hgb1 hngb)).trans e1
      have hks : k.size ≤ maxLen := by
        have e1 := h1.names _ (Dk.getL_mem hg)
        unfold Dk.okName at e1
        simp only [Bool.and_eq_true, decide_eq_true_eq] at e1
        have e2 : k.size = (s.fs[j]).1.length := by rw [← hkd]; rfl
        unfold maxLen
        omega
      have hr := h1.look hks (hkd.symm ▸ hg)
      have HF : Hid (FileAt wr g) := hf
      have HFn : Hid (∀ n, FileAt (wr.drewN n) g) := fun n => hf.kept rfl (fun _ _ => rfl)
      have HGf : Hid (g.fil = (s.fs[j]).2) := hgf
      have HG' : Hid (Dk.getL (s.fs[j]).1 G' = some g) := hg
      have Hh1 : Hid (DiskG Try.prog wr d m G' (sMid s ds j)) := h1
      have Hh2 : Hid (Turn (foot d m G) w1 wr) := h2
      have Hh3 : Hid (∀ i, foot d m G' i → foot d m G i ∨ w1.heap.size ≤ i) := h3
      clear hget hget' hg hgf hf hkd hke h1 h2 h3 hks
      by_cases he : (s.fs[j]).2.data.length = (s.fs[j]).2.safe
      · -- nothing behind what is safe
        have HT : Hid (Calls Try.prog 39 #[.pointer (some ⟨g.blk, 0, none⟩)] wr fun e w' => e = .returned (.int .i64 0) ∧ ∃ n, w' = wr.drewN n) := by
          have := tail_any g wr HF.out
          rw [HGf.out, he, Nat.sub_self] at this
          exact this
        have HE2 : Hid ((s.fs[j]).2.data.length = (s.fs[j]).2.safe) := he
        clear he
        go_wp2_with (go_at_call 39; refine HT.out.mono ?_; rintro e w' ⟨rfl, nd, rfl⟩)
        go_roundw
        case rel => exact ⟨j + 1, by omega, by go_num, (Dk.mid_stay hj' HE2.out).2 ▸ HDr.out, round_stay hj' HE2.out HGo.out nd⟩
        case measure => simp [intOf]; omega
      · have HE2 : Hid ((s.fs[j]).2.data.length ≠ (s.fs[j]).2.safe) := he
        obtain ⟨tl, htl, HT⟩ : ∃ tl : Int, (tl == 0) = false ∧ Hid (Calls Try.prog 39 #[.pointer (some ⟨g.blk, 0, none⟩)] wr fun e w' => e = .returned (.int .i64 tl) ∧ ∃ n, w' = wr.drewN n) := by
          have hsf := HF.out.safe
          rw [HGf.out] at hsf
          refine ⟨_, ?_, tail_any g wr HF.out⟩
          rw [HGf.out]
          rw [beq_eq_false_iff_ne]
          omega
        clear he
        have hdrew := (Dk.mid_tear (ds := ds) hj' (show Dk.Rise (Dk.midL s.fs ds j) from Hh1.out.riseF) HE2.out).2
        have HRe : Hid (Dk.restD (s.fs.take (j + 1)) ds = (Dk.restD (s.fs.take j) ds).tail) := hdrew
        clear hdrew
        obtain ⟨r0, hr0⟩ : ∃ r0, Dk.restD (s.fs.take j) ds = r0 := ⟨_, rfl⟩
        have HR0 : Hid (Dk.restD (s.fs.take j) ds = r0) := hr0
        have hdr := HDr.out
        rw [hr0] at hdr
        clear hr0
        cases r0 with
        | nil =>
          have HDr0 : Hid (DrawsAt w1 (foot d m G) u1 []) := hdr
          obtain ⟨a', c', hv', -, -, -, -⟩ := hdr
          rw [hv'] at HDr0
          subst hv'
          have HTe : Hid (∀ n, Calls Try.prog 40 #[.pointer (some ⟨g.blk, 0, none⟩), .int .i64 0] (wr.drewN n) fun e w' => e = .returned (.tuple #[]) ∧ ∃ u, FileAt w' ⟨g.blk, u, Dk.tearF g.fil 0⟩ ∧ Turn (fun i => i = g.blk) (wr.drewN n) w' ∧ ∀ b, u.ownBlock = some b → (wr.drewN n).heap.size ≤ b) := fun n => tear_any g 0 (wr.drewN n) (HFn.out n) (by omega)
          go_wp2_with (first
            | (go_at_call 39; refine HT.out.mono ?_; rintro e w' ⟨rfl, nd, rfl⟩)
            | (go_at_call 40; refine (HTe.out _).mono ?_; rintro e w2 ⟨rfl, u, hfu, htu, hu⟩))
          go_roundw
          case rel => exact ⟨j + 1, by omega, by go_num, (by rw [HRe.out, HR0.out]; exact HDr0.out), round_tear (draw := 0) hj' HE2.out Hh1.out Hh2.out Hh3.out HG'.out HGf.out (by rw [HR0.out]; rfl) hfu htu hu⟩
          case measure => simp [intOf]; omega
        | cons x r =>
          obtain ⟨b, off, c', hv', hrc, hcm, hb, hSb, hcx, hdr', hx⟩ := hdr.next
          have hcw : wr.cell? ⟨b, off, none⟩ = some (.int .i64 x) := (World.cell?_of_block (w := w1) (a := ⟨b, off, none⟩) (Hh2.out.block b hb hSb)).trans hcx
          obtain ⟨a2, ha2⟩ : ∃ a2, (if c' = 0 then some (⟨b, off, none⟩ : Addr) else some ⟨b, off + 1, none⟩) = a2 := ⟨_, rfl⟩
          have hsl : ∀ W, (Instr.slice 29 (.slice (some ⟨b, off, none⟩) (r.length + 1) (c' + 1)) (some (.int .i64 1)) none none).run Try.prog W = .ok (.slice a2 r.length c') W := fun W => ha2 ▸ rest_run b off r.length c' hrc W
          rw [ha2] at hdr'
          have HDr1 : Hid (DrawsAt w1 (foot d m G) (.slice a2 r.length c') r) := hdr'
          have hrl : (0 : Int) < (r.length : Int) + 1 := by omega
          unfold maxLen at hcm
          subst hv'
          have HTe : Hid (∀ n, Calls Try.prog 40 #[.pointer (some ⟨g.blk, 0, none⟩), .int .i64 x] (wr.drewN n) fun e w' => e = .returned (.tuple #[]) ∧ ∃ u, FileAt w' ⟨g.blk, u, Dk.tearF g.fil x⟩ ∧ Turn (fun i => i = g.blk) (wr.drewN n) w' ∧ ∀ b, u.ownBlock = some b → (wr.drewN n).heap.size ≤ b) := fun n => tear_any g x (wr.drewN n) (HFn.out n) hx
          clear hdr hdr' ha2 hcx hb hSb HDr
          go_wp2_with (go_at_call 39; refine HT.out.mono ?_; rintro e w' ⟨rfl, nd, rfl⟩)
          go_quiet (fail)
          go_wp2_with (go_at_call 40; refine (HTe.out _).mono ?_; rintro e w2 ⟨rfl, u, hfu, htu, hu⟩)
          go_roundw
          case rel => exact ⟨j + 1, by omega, by go_num, (by rw [HRe.out, HR0.out]; exact HDr1.out), round_tear (draw := x) hj' HE2.out Hh1.out Hh2.out Hh3.out HG'.out HGf.out (by rw [HR0.out]; rfl) hfu htu hu⟩
          case measure => simp [intOf]; omega
    · have ej : j = G.length := by omega
      subst ej
      have HGoes : Hid (Goes w wr d m G (Dk.crashS s ds)) := by
        have hgo := HGo.out
        rw [HS.out] at hgo
        obtain ⟨G', h1, h2, h3⟩ := hgo
        exact Goes.of ht h2 h1 h3
      go_wp2
      go_ret
      exact ⟨rfl, HGoes.out⟩

theorem crash_any (v : Value) (ds : List Int) (w : World) (h : DiskG Try.prog w d m G s) (hd : DrawsAt w (foot d m G) v ds) :
    Calls Try.prog 20 #[.pointer (some ⟨d, 0, none⟩), v] w fun e w' => e = .returned (.int .i64 (Dk.crashE ds)) ∧ Goes w w' d m G (Dk.crashS s ds) := by
  by_cases hl : 4096 < ds.length
  · exact crash_long v ds w h hd hl
  · cases G with
    | nil => exact crash_none v ds w h hd (by omega)
    | cons p r => exact crash_some v ds w h hd (by omega) (by simp)

end
end Go.Proofs.Ytbiombolpfhdlaa
