import Derived.Test.YtigegdelhpdlhaaGreatDoorJDownJ
import Derived.Test.YtigegdelhpdlhaaGreatDoorJMarkJ
import Derived.Test.YtigegdelhpdlhaaGreatDoorJLdJ
/- Layer 18: what a crash leaves of a disk of logs, in plain words. -/
namespace Go.Proofs.YtigegdelhpdlhaaGreatDoor
open Go.RowKit QP

theorem nodup_le {α : Type} [DecidableEq α] : ∀ {l m : List α}, l.Nodup → (∀ x ∈ l, x ∈ m) → l.length ≤ m.length
  | [], _, _, _ => Nat.zero_le _
  | a :: l, m, hn, h => by
    have ha := h a (List.mem_cons_self ..)
    have hn2 := List.nodup_cons.1 hn
    have := nodup_le (l := l) (m := m.erase a) hn2.2 fun x hx => by
      have hxa : x ≠ a := fun e => hn2.1 (e ▸ hx)
      exact (List.mem_erase_of_ne hxa).2 (h x (List.mem_cons_of_mem _ hx))
    rw [List.length_erase_of_mem ha] at this
    have hpos := List.length_pos_of_mem ha
    rw [List.length_cons]
    omega
theorem rise_of_keys {α β : Type} {l : List (List UInt8 × α)} {m : List (List UInt8 × β)} (h : Dk.keysL l = Dk.keysL m) (hr : Dk.Rise m) : Dk.Rise l := by
  unfold Dk.Rise at hr ⊢
  have h1 : (Dk.keysL m).Pairwise (fun a b => bytesBefore a b = true) := by unfold Dk.keysL; rw [List.pairwise_map]; exact hr
  rw [← h] at h1
  unfold Dk.keysL at h1
  rw [List.pairwise_map] at h1
  exact h1
theorem upTo_append (D : Nat) (a b : List (Nat × Nat)) : upTo D (a ++ b) = upTo D a ++ upTo D b := List.filter_append ..
theorem upTo_none {D : Nat} {l : List (Nat × Nat)} (h : ∀ p ∈ l, D < p.1 / 8388608) : upTo D l = [] := List.filter_eq_nil_iff.2 fun p hp => by
  have := h p hp
  simp
  omega
theorem upTo_all {D : Nat} {l : List (Nat × Nat)} (h : ∀ p ∈ l, p.1 / 8388608 ≤ D) : upTo D l = l := List.filter_eq_self.2 fun p hp => decide_eq_true (h p hp)
theorem upTo_flat {D : Nat} {LF : List UInt8 → List (Nat × Nat)} : ∀ ks : List (List UInt8), upTo D (ks.flatMap LF) = ks.flatMap (fun k => upTo D (LF k))
  | [] => rfl
  | k :: ks => by rw [List.flatMap_cons, List.flatMap_cons, upTo_append, upTo_flat ks]
/-- those of logs are all that lie there, if nothing lies elsewhere -/
theorem allE_upTo {D : Nat} {LF : List UInt8 → List (Nat × Nat)} {ks : List (List UInt8)} (h : ∀ k ∈ ks, isLogK k = false → LF k = []) : allE D LF ks = upTo D (allF LF ks) := by
  unfold allF
  rw [upTo_flat]
  refine flatMap_same fun k hk => ?_
  by_cases hl : isLogK k = true
  · rw [if_pos hl]
  · have h0 := h k hk (by simpa using hl)
    rw [if_neg hl, h0]
    rfl

/-- what becomes of the files of a disk at a crash, where one file f has more than what is safe -/
theorem crash_one {fs0 fs : List (List UInt8 × Dk.Fil)} {f D : List UInt8} (hr : Dk.Rise fs0) (hw : ∀ p ∈ fs0, p.2.data.length = p.2.safe) (hfs : fs = Dk.putL f ⟨(Dk.fileOr (Dk.getL f fs0)).data ++ D, (Dk.fileOr (Dk.getL f fs0)).safe⟩ fs0) (ds : List Int) :
    ∃ c, c ≤ D.length ∧ Dk.keysL (Dk.crashL fs ds) = Dk.insN f (Dk.keysL fs0) ∧ Dk.Rise (Dk.crashL fs ds) ∧ (∀ q, q ≠ f → Dk.getL q (Dk.crashL fs ds) = Dk.getL q fs0) ∧
      ∃ n, Dk.getL f (Dk.crashL fs ds) = some ⟨(Dk.fileOr (Dk.getL f fs0)).data ++ D.take c, n⟩ := by
  obtain ⟨o, ho⟩ : ∃ o, Dk.fileOr (Dk.getL f fs0) = o := ⟨_, rfl⟩
  rw [ho] at hfs ⊢
  have hos : o.data.length = o.safe := by
    rw [← ho]
    cases hg : Dk.getL f fs0 with
    | none => rfl
    | some x => exact hw _ (Dk.getL_mem hg)
  have hrf : Dk.Rise fs := by rw [hfs]; exact Dk.rise_putL hr
  have hle : ∀ p ∈ fs, p.2.safe ≤ p.2.data.length := fun p hp => by
    rw [hfs] at hp
    rcases Dk.mem_putL.1 hp with rfl | ⟨hm, _⟩
    · show o.safe ≤ (o.data ++ D).length
      rw [List.length_append]
      omega
    · have := hw p hm
      omega
  obtain ⟨k1, k2⟩ := crashL_each fs ds hle
  have hk : Dk.keysL (Dk.crashL fs ds) = Dk.insN f (Dk.keysL fs0) := by rw [k1, hfs, Dk.keys_putL]
  have hrc : Dk.Rise (Dk.crashL fs ds) := rise_of_keys k1 hrf
  have hf : f ∈ Dk.keysL (Dk.crashL fs ds) := by
    rw [hk]
    exact (perm_insN f _).mem_iff.2 (List.mem_cons_self ..)
  obtain ⟨p, hp, hpf⟩ := List.mem_map.1 hf
  obtain ⟨q, hq, hqp, m, m1, m2, m3⟩ := k2 p hp
  have hqx : q = (f, ⟨o.data ++ D, o.safe⟩) := by
    rw [hfs] at hq
    rcases Dk.mem_putL.1 hq with h | ⟨_, hne⟩
    · exact h
    · exact absurd (hqp.trans hpf) hne
  subst hqx
  have m2' : m ≤ o.data.length + D.length := by rw [← List.length_append]; exact m2
  have m1' : o.safe ≤ m := m1
  refine ⟨m - o.data.length, by omega, hk, hrc, fun g hg => ?_, m, ?_⟩
  · cases hge : Dk.getL g (Dk.crashL fs ds) with
    | some x =>
      have hm := Dk.getL_mem hge
      obtain ⟨q, hq, hqp, m, m1, m2, m3⟩ := k2 _ hm
      rw [hfs] at hq
      rcases Dk.mem_putL.1 hq with rfl | ⟨hm0, _⟩
      · exact absurd hqp.symm hg
      · have h0 := getL_of_mem hr hm0
        rw [hqp] at h0
        rw [h0]
        have hwq := hw q hm0
        have hm3 : x = ⟨q.2.data.take m, m⟩ := m3
        rw [hm3]
        congr 1
        have : m = q.2.data.length := by omega
        rw [this, List.take_length]
        rw [hwq]
    | none =>
      cases hg0 : Dk.getL g fs0 with
      | none => rfl
      | some x =>
        have hm := Dk.getL_mem hg0
        have h1 : g ∈ Dk.keysL (Dk.crashL fs ds) := by
          rw [hk]
          refine (perm_insN f _).mem_iff.2 (List.mem_cons_of_mem _ (List.mem_filter.2 ⟨List.mem_map.2 ⟨_, hm, rfl⟩, by simpa using hg⟩))
        obtain ⟨p, hp, hpg⟩ := List.mem_map.1 h1
        exact absurd hpg (Dk.getL_none hge p hp)
  · have h0 := getL_of_mem hrc hp
    rw [hpf] at h0
    rw [h0]
    have hm3 : p.2 = ⟨(o.data ++ D).take m, m⟩ := m3
    rw [hm3, List.take_append, List.take_of_length_le (by omega)]
end Go.Proofs.YtigegdelhpdlhaaGreatDoor

/- Layer 18: Load and Open over a disk of logs that rests. -/
namespace Go.Proofs.YtigegdelhpdlhaaGreatDoor
open Go.RowKit QP

section
variable {t k : ByteArray} {d : Nat} {s : Dk.Dsk} {w w' : World} {F : Nat → Prop} {LF : List UInt8 → List (Nat × Nat)} {Es : List Nat}
theorem DiskI.below (h : DiskI d s w F) (hb : Below w.heap.size w w') : DiskI d s w' F := (DiskI.res d s).kept (S := fun _ => False) h (Turn.ofBelow _ hb) (fun _ _ h => h)
/-- what load wants of the entries and the marks -/
structure Fine (LF : List UInt8 → List (Nat × Nat)) (Es : List Nat) : Prop where
  few : ∀ f, (LF f).length ≤ 1000 ∧ ∀ q ∈ LF f, TidOk q.1 ∧ q.2 < 9223372036854775808
  rise : RiseE Es
  low : ∀ e ∈ Es, e ≤ 2147483648
  short : Es.length ≤ 1000
theorem Fine.last (h : Fine LF Es) : lastE Es ≤ 2147483648 := by
  unfold lastE
  cases he : Es.getLast? with
  | none => simp
  | some x => exact h.low x (List.mem_of_getLast? he)
theorem cLoad (h : DiskI d s w F) (q : QDisk s t k LF Es) (f : Fine LF Es) (ht : t.size ≤ 100) (hk : k.size ≤ 100) (h20 : (allE (lastE Es) LF (Dk.keysL s.fs)).length ≤ 20) :
    Calls Tryz.prog 19 #[.pointer (some ⟨d, 0, none⟩)] w fun e w' => ∃ v, e = .returned (.tuple #[v, .int .i64 ((lastE Es : Nat) : Int), .int .i64 0]) ∧ ∃ R, Hid (EntsO w' w.heap.size t k v (sortE R)) ∧ Hid (R.map Er.tn = allE (lastE Es) LF (Dk.keysL s.fs)) ∧ Hid (Below w.heap.size w w') :=
  jLoad_calls (allE (lastE Es) LF (Dk.keysL s.fs)) w fun u hu => jload_any d s t k LF Es u F (h.below hu) (q.wal ht hk f.few f.rise f.low f.short) ht hk h20
theorem cload (h : DiskI d s w F) (q : QDisk s t k LF Es) (f : Fine LF Es) (ht : t.size ≤ 100) (hk : k.size ≤ 100) (h20 : (allE (lastE Es) LF (Dk.keysL s.fs)).length ≤ 20) :
    Calls Tryz.prog 46 #[.pointer (some ⟨d, 0, none⟩)] w fun e w' => ∃ v, e = .returned (.tuple #[v, .int .i64 ((lastE Es : Nat) : Int)]) ∧ Below w.heap.size w w' :=
  (jload_any d s t k LF Es w F h (q.wal ht hk f.few f.rise f.low f.short) ht hk h20).mono fun _ _ ⟨v, e1, _, _, _, h3⟩ => ⟨v, e1, h3⟩
/-- Open, with no marks -/
theorem cOpen0 (h : DiskI d s w F) (q : QDisk s t k LF []) (f : Fine LF []) (h0 : Dk.getL epochB.data.toList s.fs = none) (ht : t.size ≤ 100) (hk : k.size ≤ 100) (h20 : (allE 0 LF (Dk.keysL s.fs)).length ≤ 20) (n : Nat) (hn : n = 1 ∨ n = 2 ∨ n = 3 ∨ n = 4) :
    Calls Tryz.prog 9 #[.pointer (some ⟨d, 0, none⟩), .int .i64 (n : Int)] w fun e w' => ∃ l, e = .returned (.tuple #[.pointer (some ⟨l, 0, none⟩), .int .i64 0]) ∧ Goes (LD t k l d s ⟨wsN n, 0, nextGn (Dk.keysL s.fs)⟩) w w' F := by
  obtain ⟨r1, r2⟩ := q.renew0 h0
  refine jOpen_any (I' := fun l => LD t k l d s ⟨wsN n, 0, nextGn (Dk.keysL s.fs)⟩) (fun l => LD.res t k l d s _) d n w (fun i hi => (DiskI.res d s).lt h i hi) fun u hu => ?_
  refine jopen_any t k n 0 (nextGn (Dk.keysL s.fs)) (h.below hu) hn (cload (h.below hu) q f ht hk h20) (fun u' F' h' => ?_) (fun u' F' h' => jnextG_any h' q.names)
  have := jrenew_none h' (Or.inr r1)
  rw [r2] at this
  exact this
/-- Open, with marks -/
theorem cOpenM (h : DiskI d s w F) (q : QDisk s t k LF Es) (f : Fine LF Es) (h0 : 0 < lastE Es) (ht : t.size ≤ 100) (hk : k.size ≤ 100) (h20 : (allE (lastE Es) LF (Dk.keysL s.fs)).length ≤ 20) (n : Nat) (hn : n = 1 ∨ n = 2 ∨ n = 3 ∨ n = 4) (hfew : s.fs.length < 64) :
    Calls Tryz.prog 9 #[.pointer (some ⟨d, 0, none⟩), .int .i64 (n : Int)] w fun e w' => ∃ l, e = .returned (.tuple #[.pointer (some ⟨l, 0, none⟩), .int .i64 0]) ∧ Goes (LD t k l d (renS s (lastE Es)) ⟨wsN n, lastE Es, nextGn (Dk.keysL (renS s (lastE Es)).fs)⟩) w w' F := by
  obtain ⟨r1, r2, r3, r4, r5, r6, _, _, _⟩ := q.renew (lastE Es) hfew
  refine jOpen_any (I' := fun l => LD t k l d (renS s (lastE Es)) ⟨wsN n, lastE Es, nextGn (Dk.keysL (renS s (lastE Es)).fs)⟩) (fun l => LD.res t k l d _ _) d n w (fun i hi => (DiskI.res d s).lt h i hi) fun u hu => ?_
  exact jopen_any t k n (lastE Es) (nextGn (Dk.keysL (renS s (lastE Es)).fs)) (h.below hu) hn (cload (h.below hu) q f ht hk h20) (fun u' F' h' => jrenew_some (lastE Es) h' f.last h0 (Or.inr r1) r3 r4 r5) (fun u' F' h' => jnextG_any h' r6.names)
/-- Crash with no draws -/
theorem cCrash (h : DiskI d s w F) (q : QDisk s t k LF Es) :
    Calls Tryz.prog 18 #[.pointer (some ⟨d, 0, none⟩), .slice none 0 0] w fun e w' => e = .returned (.int .i64 0) ∧ QDisk (Dk.crashS s []) t k LF Es ∧ (Dk.crashS s []).fs = s.fs ∧ Goes (DiskI d (Dk.crashS s [])) w w' F := by
  obtain ⟨c1, c2⟩ := q.crash [] (by decide)
  obtain ⟨m, G, h1, h2⟩ := h
  refine (crash_any (.slice none 0 0) [] w h1 ⟨none, 0, rfl, Nat.le_refl _, by decide, fun e => absurd rfl e, fun x hx => by cases hx⟩).mono ?_
  rintro e w' ⟨e1, hg⟩
  exact ⟨e1, c2, by rw [c1], hg.to h2⟩
end
end Go.Proofs.YtigegdelhpdlhaaGreatDoor

/- Layer 18: the statements' entries (entry). -/
namespace Go.Proofs.YtigegdelhpdlhaaGreatDoor
open Go.RowKit QP

abbrev tB : ByteArray := ⟨#[116]⟩
abbrev kB : ByteArray := ⟨#[107]⟩
def tidN (ep sq : Nat) : Nat := ep * 8388608 + sq * 8
theorem tid_ok {ep sq : Nat} (h1 : ep ≤ 2147483648) (h2 : sq ≤ 1048575) : TidOk (tidN ep sq) ∧ tidN ep sq / 8388608 = ep := by
  unfold tidN
  refine ⟨⟨by omega, by omega, by omega⟩, by omega⟩
set_option maxRecDepth 100000 in
set_option maxHeartbeats 2000000 in
theorem centry (ep sq n : Nat) (w : World) (h1 : ep ≤ 2147483648) (h2 : sq ≤ 1048575) :
    Calls Tryz.prog 14 #[.int .i64 (ep : Int), .int .i64 (sq : Int), .int .i64 (n : Int)] w fun e w' => ∃ g x, e = .returned (.agg #[.int .u64 (tidN ep sq : Int), .slice (some ⟨g, 0, none⟩) 1 1]) ∧ Hid (w'.heap[g]? = some (boxJ tB kB x) ∧ OneAt w' x 2 (n : Int) ByteArray.empty ∧ w.heap.size ≤ g ∧ w.heap.size ≤ x) ∧ Below w.heap.size w w' := by
  have HP : Hid (∀ u, Calls Tryz.prog 34 #[.int .i64 (ep : Int), .int .i64 (sq : Int), .bool false, .bool false, .bool false] u fun x w' => x = .returned (.tuple #[.int .u64 (tidN ep sq : Int), .int .i64 0]) ∧ u = w') := fun u => by
    have hp : packs (ep : Int) (sq : Int) = true := by
      unfold packs within
      simp
      omega
    refine (pack_any (ep : Int) (sq : Int) false false false u).mono fun x w' ⟨e1, e2⟩ => ⟨?_, e2.symm⟩
    rw [e1]
    unfold packW packE wordOf tidN b1
    rw [hp]
    simp
  obtain ⟨T, hT⟩ : ∃ T, tidN ep sq = T := ⟨_, rfl⟩
  rw [hT] at HP ⊢
  clear hT h1 h2
  go_enter Tryz.func14, Tryz.ntmps14
  go_wp2_with (go_at_call 34; (with_reducible refine (HP.out _).mono ?_); rintro e w1 ⟨rfl, rfl⟩)
  have a0 := heap_new w (.cells #[.int .u64 (T : Int), .slice (some ⟨w.heap.size + 1 + 1, 0, none⟩) 1 1] 42)
  have b0 : Below w.heap.size w (w.alloc (.cells #[.int .u64 (T : Int), .slice (some ⟨w.heap.size + 1 + 1, 0, none⟩) 1 1] 42)) := (Below.refl _ _).alloc (Nat.le_refl _) _
  obtain ⟨w1, hw1⟩ : ∃ u, w.alloc (.cells #[.int .u64 (T : Int), .slice (some ⟨w.heap.size + 1 + 1, 0, none⟩) 1 1] 42) = u := ⟨_, rfl⟩
  have s1 : w1.heap.size = w.heap.size + 1 := by rw [← hw1, World.size_alloc]
  rw [hw1] at a0 b0 ⊢
  have a1 := heap_new w1 (.cells #[.int .i64 2, .int .i64 (n : Int), .complex .f64 0 0, .string ⟨#[]⟩] 60)
  have b1 := b0.alloc (by omega) (.cells #[.int .i64 2, .int .i64 (n : Int), .complex .f64 0 0, .string ⟨#[]⟩] 60)
  have k1 := Below.heap_alloc w1 (.cells #[.int .i64 2, .int .i64 (n : Int), .complex .f64 0 0, .string ⟨#[]⟩] 60)
  obtain ⟨w2, hw2⟩ : ∃ u, w1.alloc (.cells #[.int .i64 2, .int .i64 (n : Int), .complex .f64 0 0, .string ⟨#[]⟩] 60) = u := ⟨_, rfl⟩
  have s2 : w2.heap.size = w.heap.size + 2 := by rw [← hw2, World.size_alloc, s1]
  rw [hw2] at a1 b1 k1 ⊢
  have a2 := heap_new w2 (boxJ tB kB (w.heap.size + 1))
  have b2 := b1.alloc (by omega) (boxJ tB kB (w.heap.size + 1))
  have k2 := Below.heap_alloc w2 (boxJ tB kB (w.heap.size + 1))
  obtain ⟨w3, hw3⟩ : ∃ u, w2.alloc (boxJ tB kB (w.heap.size + 1)) = u := ⟨_, rfl⟩
  have s3 : w3.heap.size = w.heap.size + 3 := by rw [← hw3, World.size_alloc, s2]
  rw [hw3] at a2 b2 k2
  rw [s2] at a2
  rw [s1] at a1
  have hE := (k2 _ (by omega)).trans ((k1 w.heap.size (by omega)).trans a0)
  have hV := (k2 (w.heap.size + 1) (by omega)).trans a1
  show bodyPost _ _ _ _ _ (w2.alloc (boxJ tB kB (w.heap.size + 1)))
  rw [hw3]
  refine bodyPost_ret (results_cell_row rfl _ _ w.heap.size 42 #[.int .u64 (T : Int), .slice (some ⟨w.heap.size + 1 + 1, 0, none⟩) 1 1] (0, 0) _ rfl hE Tryz.underlying42 rfl (by kernel_rfl)) rfl ?_
  refine ⟨w.heap.size + 1 + 1, w.heap.size + 1, rfl, ⟨a2, ⟨by omega, ?_, ?_, ?_, ?_⟩, by omega, by omega⟩, b2⟩
  · rw [cell_of hV]; rfl
  · rw [cell_of hV]; rfl
  · rw [cell_of hV]; rfl
  · rw [cell_of hV]; rfl
end Go.Proofs.YtigegdelhpdlhaaGreatDoor
