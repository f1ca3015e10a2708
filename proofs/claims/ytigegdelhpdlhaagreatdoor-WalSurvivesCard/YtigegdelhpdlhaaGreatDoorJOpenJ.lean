import Derived.Test.YtigegdelhpdlhaaGreatDoorJAddJ
import Derived.Lib.SliceRun
import Derived.Shelf.RegionOpenPlain
/- Layer 18: a log is opened. -/
namespace Go.Proofs.YtigegdelhpdlhaaGreatDoor
open Go.RowKit QP

theorem infoWk : (Tryz.prog.info? 95).map (fun i => (i.zero, i.size, i.bytes)) = some (some (.agg #[.slice none 0 0, .int .u64 0]), 2, 32) := by kernel_rfl
abbrev vsN (n : Nat) : List Value := List.replicate n (.slice none 0 0)
abbrev wsN (n : Nat) : List Wk := List.replicate n ([], 0)
theorem make_wk (n : Nat) (hn : n = 1 ∨ n = 2 ∨ n = 3 ∨ n = 4) : ∃ C : Array Value, C.toList = flat enWv ((vsN n).zip ((wsN n).map (·.2))) ∧ ∀ W : World, (Instr.makeSlice 100 (.int .i64 (n : Int)) (.int .i64 (n : Int))).run Tryz.prog W = .ok (.slice (some ⟨W.heap.size, 0, none⟩) n n) (W.alloc (.cells C 95)) := by
  refine ⟨madeCells (Value.agg #[.slice none 0 0, .int .u64 0]).cells (n * 2), ?_, fun W => make_anyJ Tryz.underlying100 infoWk W n (by omega) (by omega)⟩
  rcases hn with rfl | rfl | rfl | rfl <;> kernel_rfl

/-- a disk as it is, and a log behind it -/
theorem open_end {t k : ByteArray} {d l b n D G : Nat} {s : Dk.Dsk} {w w3 wX : World} {F F3 : Nat → Prop} {C : Array Value} (h3 : DiskI d s w3 F3) (t3 : Turn F w w3) (n3 : ∀ i, F3 i → F i ∨ w.heap.size ≤ i)
    (hX : Below w3.heap.size w3 wX) (hb : wX.heap[b]? = some (.cells C 95 (0, 0))) (hC : C.toList = flat enWv ((vsN n).zip ((wsN n).map (·.2))))
    (hl : wX.heap[l]? = some (.cells #[.pointer (some ⟨d, 0, none⟩), .slice (some ⟨b, 0, none⟩) n n, .int .i64 (D : Int), .int .i64 (G : Int)] 103 (0, 0))) (hb3 : w3.heap.size ≤ b) (hl3 : w3.heap.size ≤ l) (hn : n ≤ 16) :
    Goes (Sep (DiskI d s) (LogI t k l d ⟨wsN n, D, G⟩)) w wX F := by
  have hown : ∀ v ∈ vsN n, v.ownBlock = none := fun v hv => by
    rw [(List.mem_replicate.1 hv).2]
    rfl
  have hG : LogG wX t k l d b (vsN n) ⟨wsN n, D, G⟩ := by
    refine ⟨by simpa using hl, ⟨C, hb, hC⟩, by simp, fun i v wk hv hw => ?_, fun i j a c g _ ha _ e => ?_, by simpa using hn, fun wk hw => ?_⟩
    · have h1 := List.mem_of_getElem? hv
      have h2 := List.mem_of_getElem? hw
      rw [(List.mem_replicate.1 h1).2, (List.mem_replicate.1 h2).2]
      exact ⟨rfl, Or.inl ⟨rfl, rfl⟩⟩
    · rw [hown a (List.mem_of_getElem? ha)] at e
      cases e
    · rw [(List.mem_replicate.1 hw).2]
      exact ⟨by simp, by decide⟩
  have hF : ∀ i, footL l b (vsN n) i → w3.heap.size ≤ i := fun i hi => by
    rcases hi with rfl | rfl | ⟨v, hv, e⟩
    · exact hl3
    · exact hb3
    · rw [hown v hv] at e; cases e
  have hD : DiskI d s wX F3 := (DiskI.res d s).kept (S := fun _ => False) h3 (Turn.ofBelow _ hX) (fun _ _ h => h)
  refine ⟨_, Sep.mk hD (J := LogI t k l d ⟨wsN n, D, G⟩) ⟨b, vsN n, hG, fun _ => Iff.rfl⟩ (fun i hi hj => ?_), t3.trans (Turn.ofBelow _ hX), fun i hi => ?_⟩
  · have := (DiskI.res d s).lt h3 i hi
    have := hF i hj
    omega
  · rcases hi with hi | hi
    · exact n3 i hi
    · have := hF i hi
      have := t3.size
      exact Or.inr (by omega)

set_option maxRecDepth 100000 in
set_option maxHeartbeats 2000000 in
theorem jopen_any {d : Nat} {s s2 : Dk.Dsk} {w : World} {F : Nat → Prop} (t k : ByteArray) (n D G : Nat) (h : DiskI d s w F) (hn : n = 1 ∨ n = 2 ∨ n = 3 ∨ n = 4)
    (hL : Calls Tryz.prog 46 #[.pointer (some ⟨d, 0, none⟩)] w fun e w' => ∃ v, e = .returned (.tuple #[v, .int .i64 (D : Int)]) ∧ Below w.heap.size w w')
    (hR : ∀ u F', DiskI d s u F' → Calls Tryz.prog 56 #[.pointer (some ⟨d, 0, none⟩), .int .i64 (D : Int)] u fun e w' => e = .returned (.tuple #[]) ∧ Goes (DiskI d s2) u w' F')
    (hN : ∀ u F', DiskI d s2 u F' → Calls Tryz.prog 57 #[.pointer (some ⟨d, 0, none⟩)] u fun e w' => e = .returned (.int .i64 (G : Int)) ∧ Below u.heap.size u w') :
    Calls Tryz.prog 29 #[.pointer (some ⟨d, 0, none⟩), .int .i64 (n : Int)] w fun e w' => ∃ l, e = .returned (.pointer (some ⟨l, 0, none⟩)) ∧ Goes (Sep (DiskI d s2) (LogI t k l d ⟨wsN n, D, G⟩)) w w' F := by
  obtain ⟨C, hC, hmk⟩ := make_wk n hn
  have HC : Hid (C.toList = flat enWv ((vsN n).zip ((wsN n).map (·.2)))) := hC
  have HL : Hid (Calls Tryz.prog 46 #[.pointer (some ⟨d, 0, none⟩)] w fun e w' => ∃ v, e = .returned (.tuple #[v, .int .i64 (D : Int)]) ∧ Below w.heap.size w w') := hL
  have HR : Hid (∀ u, Below w.heap.size w u → Calls Tryz.prog 56 #[.pointer (some ⟨d, 0, none⟩), .int .i64 (D : Int)] u fun e w' => e = .returned (.tuple #[]) ∧ ∃ F', Hid (DiskI d s2 w' F' ∧ Turn F w w' ∧ ∀ i, F' i → F i ∨ w.heap.size ≤ i)) := fun u hu => by
    refine (hR u F ((DiskI.res d s).kept (S := fun _ => False) h (Turn.ofBelow _ hu) (fun _ _ h => h))).mono ?_
    rintro e w' ⟨e1, F', g1, g2, g3⟩
    exact ⟨e1, F', g1, (Turn.ofBelow _ hu).trans g2, fun i hi => (g3 i hi).imp id fun q => by have := hu.size; omega⟩
  have HNx : Hid (∀ u F', DiskI d s2 u F' → Calls Tryz.prog 57 #[.pointer (some ⟨d, 0, none⟩)] u fun e w' => e = .returned (.int .i64 (G : Int)) ∧ Below u.heap.size u w') := hN
  have HRf : Hid (∀ z u, Calls Tryz.prog 55 #[.bool false, .int .i64 z] u fun r w' => r = .returned (.tuple #[]) ∧ u = w') := fun z u => (refuse_no z u).mono fun _ _ h => ⟨h.1, h.2.symm⟩
  have hn16 : Hid (n ≤ 16) := by show _ ≤ _; omega
  have c1 : ¬ (n : Int) < 1 := by omega
  have c2 : decide (16 < (n : Int)) = false := decide_eq_false (by omega)
  have c3 : decide (16 < n) = false := decide_eq_false (by omega)
  have c4 : decide ((n : Int) < 1) = false := decide_eq_false (by omega)
  have c5 : ¬ (16 : Int) < (n : Int) := by omega
  clear h hL hR hN hC hn
  go_enter Tryz.func29, Tryz.ntmps29
  go_wp2_with (first
    | (go_at_call 55; (with_reducible refine (HRf.out _ _).mono ?_); rintro e w0 ⟨rfl, rfl⟩)
    | (go_at_call 46; (with_reducible refine HL.out.mono ?_); rintro e w1 ⟨v1, rfl, hb1⟩)
    | (go_at_call 56; (with_reducible refine (HR.out _ hb1).mono ?_); rintro e w3 ⟨rfl, F3, H3⟩; clear hb1))
  have HN : Hid (∀ u, Below w3.heap.size w3 u → Calls Tryz.prog 57 #[.pointer (some ⟨d, 0, none⟩)] u fun e w' => e = .returned (.int .i64 (G : Int)) ∧ Below u.heap.size u w') := fun u hu => HNx.out u F3 ((DiskI.res d s2).kept (S := fun _ => False) H3.out.1 (Turn.ofBelow _ hu) (fun _ _ h => h))
  clear HNx
  go_region_with (go_at_call 57; go_must ((with_reducible refine (HN.out _ (by go_grown)).mono ?_); rintro e w5 ⟨rfl, hb5⟩))
  · go_wp2_with fail
    go_ret
    have hs : (w3.alloc (.cells C 95)).drew.heap.size = w3.heap.size + 1 := World.size_alloc w3 _
    have hbX : Below w3.heap.size w3 w5 := ((Below.refl w3.heap.size w3).alloc (Nat.le_refl _) (.cells C 95)).trans (((below_drewN _ 1).trans hb5).mono (by rw [World.size_alloc]; omega))
    have h5 : w5.heap[w3.heap.size]? = some (.cells C 95 (0, 0)) := (hb5.block _ (by omega)).trans (heap_new w3 (.cells C 95))
    have hsz := hb5.size
    exact ⟨_, rfl, open_end H3.out.1 H3.out.2.1 H3.out.2.2 (b := w3.heap.size) (l := w5.heap.size) (C := C) (hbX.alloc hbX.size _) ((Below.heap_alloc w5 _ _ (lt_of h5)).trans h5) HC.out (heap_new w5 _) (Nat.le_refl _) (by omega) hn16.out⟩
  · go_wp2_with fail
    go_ret
    have hbX : Below w3.heap.size w3 w5 := (below_drewN _ 1).trans hb5
    have hsz : w3.heap.size ≤ w5.heap.size := hbX.size
    have h5 := heap_new w5 (.cells C 95)
    have hb6 := hbX.alloc hsz (.cells C 95)
    exact ⟨_, rfl, open_end H3.out.1 H3.out.2.1 H3.out.2.2 (b := w5.heap.size) (l := w5.heap.size + 1) (C := C) (hb6.alloc (by rw [World.size_alloc]; omega) _) ((Below.heap_alloc _ _ _ (by rw [World.size_alloc]; omega)).trans h5) HC.out (by rw [← World.size_alloc w5 (.cells C 95)]; exact heap_new _ _) hsz (by omega) hn16.out⟩
end Go.Proofs.YtigegdelhpdlhaaGreatDoor

/- Layer 18's face: told at a log that is new; Open. -/
namespace Go.Proofs.YtigegdelhpdlhaaGreatDoor
open Go.RowKit QP

/-- what is told is where it lies -/
def ExP (I' : Nat → World → (Nat → Prop) → Prop) (y : Nat) (w : World) (F : Nat → Prop) : Prop := ∃ p, Wth (I' p) y (.cells #[.pointer (some ⟨p, 0, none⟩)] 29 (0, 0)) w F
theorem ExP.res {I' : Nat → World → (Nat → Prop) → Prop} (R : ∀ p, Res (I' p)) (y : Nat) : Res (ExP I' y) := by
  refine ⟨fun {w F} h i hi => ?_, fun {w w' F S} h ht hS => ?_⟩
  · obtain ⟨p, h⟩ := h
    exact (Wth.res (R p) _ _).lt h i hi
  · obtain ⟨p, h⟩ := h
    exact ⟨p, (Wth.res (R p) _ _).kept h ht hS⟩
theorem Goes.exP {I' : Nat → World → (Nat → Prop) → Prop} {y p : Nat} {w w' : World} {F : Nat → Prop} (h : Goes (Wth (I' p) y (.cells #[.pointer (some ⟨p, 0, none⟩)] 29 (0, 0))) w w' F) : Goes (ExP I' y) w w' F := by
  obtain ⟨F', h1, h2, h3⟩ := h
  exact ⟨F', ⟨p, h1⟩, h2, h3⟩

set_option maxRecDepth 100000 in
set_option maxHeartbeats 1000000 in
theorem toldL1N_ok {I' : Nat → World → (Nat → Prop) → Prop} {F : Nat → Prop} (R : ∀ p, Res (I' p)) (K : FuncId) (a b : Value) (u : World) (x y : Nat) (hx : u.heap[x]? = some (.cells #[.func (.func K) #[] #[a, b]] 70 (0, 0))) (hy : u.heap[y]? = some (.cells #[.pointer none] 29 (0, 0))) (hFy : ¬ F y)
    (hE : ∀ u, (callFunc K #[a, b]).run Tryz.prog u = .ok (.enter K #[a, b]) u) (h : Calls Tryz.prog K #[a, b] u fun r w' => ∃ p, r = .returned (.pointer (some ⟨p, 0, none⟩)) ∧ Goes (I' p) u w' F) :
    Calls Tryz.prog 54 #[.pointer (some ⟨x, 0, none⟩), .pointer (some ⟨y, 0, none⟩)] u fun r w' => r = .returned (.tuple #[]) ∧ Goes (ExP I' y) u w' (fun i => F i ∨ i = y) := by
  have HC : Hid (Calls Tryz.prog K #[a, b] u fun r w' => ∃ p, r = .returned (.pointer (some ⟨p, 0, none⟩)) ∧ Goes (I' p) u w' F) := h
  have HY : Hid (u.heap[y]? = some (.cells #[.pointer none] 29 (0, 0))) := hy
  have dx : u.cell? ⟨x, 0, none⟩ = some (.func (.func K) #[] #[a, b]) := by rw [cell_of hx]; rfl
  have hl := lt_of hy
  clear h hx hy
  go_enter Tryz.func54, Tryz.ntmps54
  go_wp2_with fail
  refine HC.out.mono ?_
  rintro r w1 ⟨p, rfl, hg⟩
  have hy1 : w1.heap[y]? = some (.cells #[.pointer none] 29 (0, 0)) := by
    obtain ⟨F', h1, h2, h3⟩ := id hg
    exact (h2.block y hl hFy).trans HY.out
  have dy : w1.cell? ⟨y, 0, none⟩ = some (.pointer none) := by rw [cell_of hy1]; rfl
  have zy : w1.frozen? ⟨y, 0, none⟩ = false := frozen_of hy1 0
  have HG : Hid (Goes (Wth (I' p) y (.cells #[.pointer (some ⟨p, 0, none⟩)] 29 (0, 0))) u (w1.setCell ⟨y, 0, none⟩ (.pointer (some ⟨p, 0, none⟩))) (fun i => F i ∨ i = y)) := wth_ok (R p) HY.out hFy hg
  clear hy1 hg
  go_wp2_with fail
  go_returns
  exact ⟨rfl, HG.out.exP⟩

set_option maxRecDepth 100000 in
set_option maxHeartbeats 1000000 in
theorem toldLN_ok {I' : Nat → World → (Nat → Prop) → Prop} {F : Nat → Prop} (R : ∀ p, Res (I' p)) (K : FuncId) (a b : Value) (w : World) (hF : ∀ i, F i → i < w.heap.size) (hE : ∀ u, (callFunc K #[a, b]).run Tryz.prog u = .ok (.enter K #[a, b]) u)
    (h : ∀ u, Below w.heap.size w u → Calls Tryz.prog K #[a, b] u fun r w' => ∃ p, r = .returned (.pointer (some ⟨p, 0, none⟩)) ∧ Goes (I' p) u w' F) :
    Calls Tryz.prog 27 #[.func (.func K) #[] #[a, b]] w fun r w' => ∃ p, r = .returned (.tuple #[.pointer (some ⟨p, 0, none⟩), .int .i64 0]) ∧ Goes (I' p) w w' F := by
  have hmf : ∀ (fn : Fn) (first cap : Array Value) (w : World), (Instr.makeFunc fn first cap).run Tryz.prog w = .ok (.func fn first cap) w := fun _ _ _ _ => rfl
  obtain ⟨q, hq⟩ : ∃ q, w.heap.size = q := ⟨_, rfl⟩
  have hn1 := heap_new w (.cells #[.func (.func K) #[] #[a, b]] 70)
  have hn2 := heap_new (w.alloc (.cells #[.func (.func K) #[] #[a, b]] 70)) (.cells #[.pointer none] 29)
  have hn3 := (Below.heap_alloc (w.alloc (.cells #[.func (.func K) #[] #[a, b]] 70)) (.cells #[.pointer none] 29) w.heap.size (by simp)).trans hn1
  rw [World.size_alloc, hq] at hn2
  rw [hq] at hn3
  have hsz : ((w.alloc (.cells #[.func (.func K) #[] #[a, b]] 70)).alloc (.cells #[.pointer none] 29)).heap.size = q + 2 := by simp; omega
  have hbT : Below w.heap.size w ((w.alloc (.cells #[.func (.func K) #[] #[a, b]] 70)).alloc (.cells #[.pointer none] 29)) := ((Below.refl _ _).alloc (Nat.le_refl _) _).alloc (by simp) _
  obtain ⟨wT, hwT⟩ : ∃ u, (w.alloc (.cells #[.func (.func K) #[] #[a, b]] 70)).alloc (.cells #[.pointer none] 29) = u := ⟨_, rfl⟩
  rw [hwT] at hn2 hn3 hsz hbT
  have HD : Hid (Calls Tryz.prog 35 #[.func (.func 54) #[] #[.pointer (some ⟨q, 0, none⟩), .pointer (some ⟨q + 1, 0, none⟩)]] wT fun r w' => r = .returned (.int .i64 0) ∧ Goes (ExP I' (q + 1)) wT w' (fun i => F i ∨ i = q + 1)) := by
    refine done2_goes_ok (ExP.res R _) 54 _ _ wT (fun i hi => ?_) (enters_of Tryz.func54 (by kernel_rfl) rfl _) (fun u hu => ?_)
    · rcases hi with hi | hi
      · have := hF i hi; omega
      · omega
    · refine toldL1N_ok R K a b u q (q + 1) ((hu.block _ (by omega)).trans hn3) ((hu.block _ (by omega)).trans hn2) (fun hf => ?_) hE (h u (hbT.trans (hu.mono (by omega))))
      have := hF _ hf
      omega
  have HE : Hid (∀ w2, Goes (ExP I' (q + 1)) wT w2 (fun i => F i ∨ i = q + 1) → ∃ p, w2.heap[q + 1]? = some (.cells #[.pointer (some ⟨p, 0, none⟩)] 29 (0, 0)) ∧ Goes (I' p) w (w2.setCell ⟨q + 1, 0, none⟩ (.pointer (some ⟨p, 0, none⟩))) F) := fun w2 hg => by
    obtain ⟨F', ⟨p, h1⟩, h2, h3⟩ := hg
    refine ⟨p, ?_, ?_⟩
    · obtain ⟨_, _, h2, _, _⟩ := id h1
      exact h2
    · have hg : Goes (Wth (I' p) (q + 1) (.cells #[.pointer (some ⟨p, 0, none⟩)] 29 (0, 0))) wT w2 (fun i => F i ∨ i = q + 1) := ⟨F', h1, h2, h3⟩
      subst hq
      rw [← hwT] at hg
      exact wth_end (R p) (.pointer (some ⟨p, 0, none⟩)) hg
  have HW : Hid ((w.alloc (.cells #[.func (.func K) #[] #[a, b]] 70)).alloc (.cells #[.pointer none] 29) = wT) := hwT
  clear h hn1 hn2 hn3 hsz hbT hwT hF
  go_enter Tryz.func27, Tryz.ntmps27
  go_wp2_with fail
  rw [HW.out]
  refine HD.out.mono ?_
  rintro r w2 ⟨rfl, hg⟩
  obtain ⟨p, hy2, hg2⟩ := HE.out w2 hg
  have HG2 : Hid (Goes (I' p) w (w2.setCell ⟨q + 1, 0, none⟩ (.pointer (some ⟨p, 0, none⟩))) F) := hg2
  have dy : w2.cell? ⟨q + 1, 0, none⟩ = some (.pointer (some ⟨p, 0, none⟩)) := by rw [cell_of hy2]; rfl
  have zy : w2.frozen? ⟨q + 1, 0, none⟩ = false := frozen_of hy2 0
  clear hy2 hg hg2
  have e2 : (w2.setCell ⟨q + 1, 0, none⟩ (.pointer (some ⟨p, 0, none⟩))).cell? ⟨q + 1, 0, none⟩ = some (.pointer (some ⟨p, 0, none⟩)) := World.cell?_setCell_same _ _ _ dy
  go_wp2_with fail
  refine bodyPost_ret (v := .tuple #[.pointer (some ⟨p, 0, none⟩), .int .i64 0]) (by simp [results, Tryz.results27, go_sem, e2]) rfl ⟨p, rfl, HG2.out⟩


set_option maxRecDepth 100000 in
set_option maxHeartbeats 1000000 in
theorem jOpen_any {I' : Nat → World → (Nat → Prop) → Prop} {F : Nat → Prop} (R : ∀ p, Res (I' p)) (d n : Nat) (w : World) (hF : ∀ i, F i → i < w.heap.size) (h : ∀ u, Below w.heap.size w u → Calls Tryz.prog 29 #[.pointer (some ⟨d, 0, none⟩), .int .i64 (n : Int)] u fun r w' => ∃ l, r = .returned (.pointer (some ⟨l, 0, none⟩)) ∧ Goes (I' l) u w' F) :
    Calls Tryz.prog 9 #[.pointer (some ⟨d, 0, none⟩), .int .i64 (n : Int)] w fun r w' => ∃ l, r = .returned (.tuple #[.pointer (some ⟨l, 0, none⟩), .int .i64 0]) ∧ Goes (I' l) w w' F := by
  have hmf : ∀ (fn : Fn) (first cap : Array Value) (w : World), (Instr.makeFunc fn first cap).run Tryz.prog w = .ok (.func fn first cap) w := fun _ _ _ _ => rfl
  obtain ⟨q, hq⟩ : ∃ q, w.heap.size = q := ⟨_, rfl⟩
  obtain ⟨wT, hwT⟩ : ∃ u, (w.alloc (.cells #[.pointer (some ⟨d, 0, none⟩)] 23)).alloc (numO (n : Int)) = u := ⟨_, rfl⟩
  have b1 : Below w.heap.size w (w.alloc (.cells #[.pointer (some ⟨d, 0, none⟩)] 23)) := (Below.refl _ _).alloc (Nat.le_refl _) _
  have b2 := b1.alloc b1.size (numO (n : Int))
  have hn0 := (Below.heap_alloc _ (numO (n : Int)) w.heap.size (by simp)).trans (heap_new w (.cells #[.pointer (some ⟨d, 0, none⟩)] 23))
  have hn1 := heap_new (w.alloc (.cells #[.pointer (some ⟨d, 0, none⟩)] 23)) (numO (n : Int))
  rw [World.size_alloc, hq] at hn1
  rw [hq] at hn0
  rw [hwT] at hn0 hn1 b2
  have hbT : Below w.heap.size w wT := b2
  have HD : Hid (Calls Tryz.prog 27 #[.func (.func 28) #[] #[.pointer (some ⟨q, 0, none⟩), .pointer (some ⟨q + 1, 0, none⟩)]] wT fun r w' => ∃ l, r = .returned (.tuple #[.pointer (some ⟨l, 0, none⟩), .int .i64 0]) ∧ Goes (I' l) wT w' F) := by
    refine toldLN_ok R 28 _ _ wT (fun j hj => Nat.lt_of_lt_of_le (hF j hj) hbT.size) (enters_of Tryz.func28 (by kernel_rfl) rfl _) fun u hu => ?_
    have HC : Hid (Calls Tryz.prog 29 #[.pointer (some ⟨d, 0, none⟩), .int .i64 (n : Int)] u fun r w' => ∃ l, r = .returned (.pointer (some ⟨l, 0, none⟩)) ∧ Goes (I' l) u w' F) := h u (hbT.trans (hu.mono hbT.size))
    have h0 := (hu.block _ (lt_of hn0)).trans hn0
    have h1 := (hu.block _ (lt_of hn1)).trans hn1
    have d0 : u.cell? ⟨q, 0, none⟩ = some (.pointer (some ⟨d, 0, none⟩)) := by rw [cell_of h0]; rfl
    have d1 : u.cell? ⟨q + 1, 0, none⟩ = some (.int .i64 (n : Int)) := by rw [cell_of h1]; rfl
    clear h hn0 hn1 h0 h1 hwT hbT b1 b2 hu
    go_enter Tryz.func28, Tryz.ntmps28
    go_wp2_with fail
    refine HC.out.mono ?_
    rintro r w1 ⟨p, rfl, hg⟩
    go_wp2_with fail
    go_ret
    exact ⟨p, rfl, hg⟩
  have HW : Hid ((w.alloc (.cells #[.pointer (some ⟨d, 0, none⟩)] 23)).alloc (numO (n : Int)) = wT) := hwT
  have HB : Hid (Below w.heap.size w wT) := hbT
  clear h hn0 hn1 hbT hwT b1 b2
  go_enter Tryz.func9, Tryz.ntmps9
  go_wp2_with fail
  rw [HW.out]
  refine HD.out.mono ?_
  rintro r w2 ⟨p, rfl, hg⟩
  go_wp2_with fail
  go_returns
  exact ⟨p, rfl, hg.after HB.out⟩
end Go.Proofs.YtigegdelhpdlhaaGreatDoor

/- Layer 18: slices.Delete from the beginning of a row of lines. -/
namespace Go.Proofs.YtigegdelhpdlhaaGreatDoor
open Go.RowKit QP

theorem setCells_turn (b : Nat) : ∀ (vs : List Value) (o : Nat) (w : World), Turn (fun i => i = b) w (w.setCells b o vs)
  | [], _, _ => Turn.refl _ _
  | v :: r, o, w => (Turn.setCell (S := fun i => i = b) w ⟨b, o, none⟩ v rfl).trans (setCells_turn b r (o + 1) _)

theorem setCells_heap3 (b : Nat) : ∀ (vs : List Value) (o : Nat) (w : World) (cur : Array Value) (t : TypeId) (fz : Nat × Nat) (pre mid post : List Value), w.heap[b]? = some (.cells cur t fz) → cur.toList = pre ++ (mid ++ post) → pre.length = o → mid.length = vs.length →
    ∃ cur', (w.setCells b o vs).heap[b]? = some (.cells cur' t fz) ∧ cur'.toList = pre ++ (vs ++ post)
  | [], _, w, cur, t, fz, pre, mid, post, hb, hc, _, hl => ⟨cur, hb, by rw [hc, List.length_eq_zero_iff.1 hl]⟩
  | v :: r, o, w, cur, t, fz, pre, mid, post, hb, hc, ho, hl => by
    match mid, hl with
    | u :: mid, hl =>
      obtain ⟨cur', h1, h2⟩ := setCells_heap3 b r (o + 1) (w.setCell ⟨b, o, none⟩ v) (cur.setIfInBounds o v) t fz (pre ++ [v]) mid post (heap_setCell_same hb o v) (by
        rw [Array.toList_setIfInBounds, hc, List.set_append_right _ _ (by omega), ho, Nat.sub_self, List.cons_append, List.set_cons_zero]
        simp) (by simp [ho]) (by simpa using hl)
      exact ⟨cur', h1, by rw [h2]; simp⟩

/-- clear of a slice of things of any size -/
theorem run_clear_row {w : World} {t e ty : TypeId} {z : Value} (ht : Tryz.prog.underlying t = some (.slice e)) (hv : ∀ w, (zeroValue e).run Tryz.prog w = .ok z w) (h1 : ∀ v ∈ z.cells.toList, v.oneCell' = true) {b o n c : Nat} (hn : 0 < n)
    (hc : ∀ j, j < n * z.cells.size → (w.cell? ⟨b, o + j, none⟩).isSome = true) (hf : ∀ j, j < n * z.cells.size → w.frozen? ⟨b, o + j, none⟩ = false) :
    ∃ vs : List Value, vs.length = n * z.cells.size ∧ (Builtin.clear_ #[t] ty #[.slice (some ⟨b, o, none⟩) n c]).run Tryz.prog w = .ok (.tuple #[]) (w.setCells b o vs) := by
  have hl : (Builtin.zeroCells z.cells n).toList.length = n * z.cells.size := by rw [Array.length_toList, size_zeroCells]
  have hm : ∀ v ∈ (Builtin.zeroCells z.cells n).toList, v.oneCell' = true := by
    intro v hv'
    simp only [Builtin.zeroCells] at hv'
    obtain ⟨i, hi, rfl⟩ := List.getElem_of_mem hv'
    simp at hi
    simp
    rcases Nat.eq_zero_or_pos z.cells.size with h0 | h0
    · rw [h0] at hi; simp at hi
    · have hlt := Nat.mod_lt i h0
      rw [getElem!_pos z.cells _ hlt]
      exact h1 _ (by simp)
  have hst := run_storeCells_cells (P := Tryz.prog) b o (Builtin.zeroCells z.cells n).toList 0 w (by rw [hl]; simpa using hc) (by rw [hl]; simpa using hf) hm
  simp only [Nat.add_zero] at hst
  refine ⟨_, hl, ?_⟩
  obtain ⟨m, rfl⟩ : ∃ m, n = m + 1 := ⟨n - 1, by omega⟩
  simp [Builtin.clear_, run_underlying ht, hv, hst]

set_option maxRecDepth 100000 in
theorem delete_zero {a : Option Addr} {n m : Nat} (w : World) (h : n ≤ m) (hm : m ≤ maxLen) (ha : a = none → m = 0) : Calls Tryz.prog 69 #[.slice a n m, .int .i64 0, .int .i64 0] w fun e w' => e = .returned (.slice a n m) ∧ w' = w := by
  unfold maxLen at hm
  cases a with
  | none =>
    have := ha rfl
    subst this
    obtain rfl : n = 0 := by omega
    clear ha h hm
    go_enter Tryz.func69, Tryz.ntmps69
    go_wp2_with fail
    go_ret
    exact ⟨rfl, rfl⟩
  | some ad =>
    clear ha
    go_enter Tryz.func69, Tryz.ntmps69
    go_wp2_with fail
    all_goals go_ret
    all_goals exact ⟨rfl, rfl⟩

set_option maxRecDepth 100000 in
set_option maxHeartbeats 1000000 in
theorem delete_some {tb kb : ByteArray} {g n m j : Nat} {cur : Array Value} {L : List (Nat × Nat)} {w : World} (hg : w.heap[g]? = some (.cells cur 113 (0, 0))) (hnm : n ≤ m) (hm : m ≤ maxLen) (hs : cur.size = m * 2) (ht : cur.toList.take (n * 2) = flat (enLn tb kb) L) (hl : L.length = n) (hj : 0 < j) (hjn : j ≤ n) :
    Calls Tryz.prog 69 #[.slice (some ⟨g, 0, none⟩) n m, .int .i64 0, .int .i64 (j : Int)] w fun e w' => e = .returned (.slice (some ⟨g, 0, none⟩) (n - j) m) ∧ (∃ cur', w'.heap[g]? = some (.cells cur' 113 (0, 0)) ∧ cur'.size = m * 2 ∧ cur'.toList.take ((n - j) * 2) = flat (enLn tb kb) (L.drop j)) ∧ Turn (fun i => i = g) w w' := by
  unfold maxLen at hm
  -- what is moved
  obtain ⟨news, hnews⟩ : ∃ news, news = flat (enLn tb kb) (L.drop j) := ⟨_, rfl⟩
  have hlen : news.length = (n - j) * 2 := by rw [hnews, flat_length (enLn_len tb kb), List.length_drop, hl, Nat.mul_comm]
  have hcell : ∀ t u, news[t]? = some u → cur.toList[j * 2 + t]? = some u := by
    intro t u hu
    have ht1 : t < (n - j) * 2 := by rw [← hlen]; exact (List.getElem?_eq_some_iff.1 hu).1
    have e1 : flat (enLn tb kb) L = flat (enLn tb kb) (L.take j) ++ news := by rw [hnews, ← flat_append, List.take_append_drop]
    have e2 : (flat (enLn tb kb) L)[j * 2 + t]? = some u := by
      rw [e1, List.getElem?_append_right (by rw [flat_length (enLn_len tb kb), List.length_take, hl]; omega), flat_length (enLn_len tb kb), List.length_take, hl, Nat.min_eq_left hjn]
      rw [show j * 2 + t - 2 * j = t by omega]
      exact hu
    rw [← ht, List.getElem?_take_of_lt (by omega)] at e2
    exact e2
  obtain ⟨A, hA, hsrc⟩ : ∃ A : Addr, (if m = j then some (⟨g, 0, none⟩ : Addr) else some ⟨g, j * 2, none⟩) = some A ∧ Hid (∀ t u, news[t]? = some u → w.drew.cell? (A.add t) = some u) := by
    by_cases h : m = j
    · refine ⟨⟨g, 0, none⟩, by simp [h], fun t u hu => ?_⟩
      have h0 : news.length = 0 := by rw [hlen]; omega
      rw [List.length_eq_zero_iff.1 h0] at hu
      simp at hu
    · refine ⟨⟨g, j * 2, none⟩, by simp [h], fun t u hu => ?_⟩
      rw [Addr.add_lit]
      show w.cell? ⟨g, j * 2 + t, none⟩ = some u
      rw [cell_of hg, ← Array.getElem?_toList]
      exact hcell t u hu
  have s1 : Hid (news.length = (n - j) * 2) := hlen
  have s2 : Hid (∀ u ∈ news, u.oneCell' = true) := by
    intro u hu
    rw [hnews] at hu
    obtain ⟨y, _, hy⟩ := List.mem_flatMap.1 hu
    simp [enLn] at hy
    rcases hy with rfl | rfl <;> rfl
  have s3 : Hid (∀ t, t < news.length → (w.drew.cell? ⟨g, 0 + 0 * 2 + t, none⟩).isSome = true ∧ w.drew.frozen? ⟨g, 0 + 0 * 2 + t, none⟩ = false) := by
    intro t ht'
    rw [hlen] at ht'
    refine ⟨?_, frozen_of hg _⟩
    show (w.cell? ⟨g, 0 + 0 * 2 + t, none⟩).isSome = true
    rw [cell_of hg, Array.getElem?_eq_getElem (by omega)]
    rfl
  obtain ⟨i0, hi0, -, hz2, -⟩ := infoLn
  -- behind the append
  obtain ⟨W1, hW1⟩ : ∃ W1, W1 = w.drew.setCells g (0 + 0 * 2) news := ⟨_, rfl⟩
  obtain ⟨cur1, g1, t1⟩ := setCells_heap3 g news 0 w.drew cur _ _ [] (cur.toList.take ((n - j) * 2)) (cur.toList.drop ((n - j) * 2)) hg (by rw [List.nil_append, List.take_append_drop]) rfl (by rw [List.length_take, Array.length_toList, hs, hlen]; omega)
  have hW1' : W1 = w.drew.setCells g 0 news := hW1
  rw [← hW1'] at g1
  have T1 : Turn (fun i => i = g) w W1 := by
    have h := setCells_turn g news 0 w.drew
    rw [← hW1'] at h
    exact ⟨h.os, h.tape, h.output, h.size, h.block⟩
  have z1 : cur1.size = m * 2 := by
    have := congrArg List.length t1
    rw [List.nil_append, List.length_append, Array.length_toList, hlen, List.length_drop, Array.length_toList, hs] at this
    omega
  obtain ⟨vs, hvl, hcl⟩ := run_clear_row (w := W1) (t := 93) (e := 113) (ty := 0) (z := .agg #[.int .i64 0, .string ⟨#[]⟩]) (b := g) (o := (n - j) * 2) (n := n - (n - j)) (c := m - (n - j)) Tryz.underlying93 Tryz.zeroValue113 (by
    intro v hv
    simp [Value.cells] at hv
    rcases hv with rfl | rfl <;> rfl) (by omega) (fun t ht' => by
    have h2 : (Value.agg #[Value.int .i64 0, Value.string ⟨#[]⟩]).cells.size = 2 := rfl
    rw [h2] at ht'
    rw [cell_of g1, Array.getElem?_eq_getElem (by omega)]
    rfl) (fun t _ => frozen_of g1 _)
  have hvl' : vs.length = (n - (n - j)) * 2 := hvl
  obtain ⟨cur2, g2, t2⟩ := setCells_heap3 g vs ((n - j) * 2) W1 cur1 _ _ news ((cur.toList.drop ((n - j) * 2)).take ((n - (n - j)) * 2)) ((cur.toList.drop ((n - j) * 2)).drop ((n - (n - j)) * 2)) g1 (by rw [List.take_append_drop, t1, List.nil_append]) hlen (by rw [hvl', List.length_take, List.length_drop, Array.length_toList, hs]; omega)
  have T2 : Turn (fun i => i = g) w (W1.setCells g ((n - j) * 2) vs) := T1.trans (setCells_turn g vs _ W1)
  have z2 : cur2.size = m * 2 := by
    have := congrArg List.length t2
    rw [List.length_append, List.length_append, Array.length_toList, hlen, hvl', List.length_drop, List.length_drop, Array.length_toList, hs] at this
    omega
  have HE : Hid ((∃ cur', (W1.setCells g ((n - j) * 2) vs).heap[g]? = some (.cells cur' 113 (0, 0)) ∧ cur'.size = m * 2 ∧ cur'.toList.take ((n - j) * 2) = flat (enLn tb kb) (L.drop j)) ∧ Turn (fun i => i = g) w (W1.setCells g ((n - j) * 2) vs)) :=
    ⟨⟨cur2, g2, z2, by rw [t2, ← hlen, List.take_left, hnews]⟩, T2⟩
  have hW : Hid (W1 = w.drew.setCells g (0 + 0 * 2) news) := hW1
  have hjm : j ≤ m := by omega
  have hne : ¬ j = 0 := by omega
  clear hW1 hW1' g1 t1 T1 z1 hvl hvl' g2 t2 T2 z2 hg hs ht hcell hnews hlen
  go_enter Tryz.func69, Tryz.ntmps69
  go_wp2_with fail
  go_region_law (refine step_append_room (by rfl) _ _ 93 (by rfl) 113 i0 2 Tryz.underlying93 hi0 hz2 g 0 0 m (by simp [Act.eval, Act.put]) A (n - j) (m - j) news (by simp [Act.eval, Act.put]) s1.out hsrc.out s2.out (by omega) s3.out ?_; rw [← hW.out])
  all_goals go_wp2_with fail
  all_goals go_ret
  all_goals exact ⟨rfl, HE.out.1, HE.out.2⟩

theorem jdelete_any {tb kb : ByteArray} {a : Option Addr} {n m j : Nat} {L : List (Nat × Nat)} {w : World} (h : w.ownsRow 0 113 2 (.slice a n m) n (flat (enLn tb kb) L)) (hl : L.length = n) (hj : j ≤ n) :
    Calls Tryz.prog 69 #[.slice a n m, .int .i64 0, .int .i64 (j : Int)] w fun e w' => e = .returned (.slice a (n - j) m) ∧ w'.ownsRow 0 113 2 (.slice a (n - j) m) (n - j) (flat (enLn tb kb) (L.drop j)) ∧ Turn (fun i => (Value.slice a n m).ownBlock = some i) w w' := by
  by_cases h0 : j = 0
  · subst h0
    have h1 : n ≤ m ∧ m ≤ maxLen ∧ (a = none → m = 0) := by
      rcases h.2 with ⟨e, hn⟩ | ⟨g, cap, cur, e, hb, hg, hnc, hcm, _, _⟩
      · injection e with e1 e2 e3
        subst e3
        exact ⟨by omega, Nat.zero_le _, fun _ => rfl⟩
      · injection e with e1 e2 e3
        subst e1 e3
        exact ⟨hnc, hcm, fun e => by cases e⟩
    refine (delete_zero w h1.1 h1.2.1 h1.2.2).mono ?_
    rintro e w' ⟨rfl, rfl⟩
    exact ⟨by rw [Nat.sub_zero], by rw [Nat.sub_zero, List.drop_zero]; exact h, Turn.refl _ _⟩
  · rcases h.2 with ⟨e, hn⟩ | ⟨g, cap, cur, e, hb, hg, hnc, hcm, hs, ht⟩
    · omega
    · injection e with e1 e2 e3
      subst e1 e3
      refine (delete_some hg hnc hcm hs ht hl (by omega) hj).mono ?_
      rintro e w' ⟨rfl, ⟨cur', g1, g2, g3⟩, hT⟩
      refine ⟨rfl, ⟨by rw [flat_length (enLn_len tb kb), List.length_drop, hl, Nat.mul_comm], Or.inr ⟨g, m, cur', rfl, hb, g1, by omega, hcm, g2, g3⟩⟩, hT.mono (fun i hi => by rw [hi]; rfl)⟩

end Go.Proofs.YtigegdelhpdlhaaGreatDoor
