import Derived.Test.YtigegdelhpdlhaaGreatDoorPureJ
import Derived.WalkKit
import Derived.Maps.OwnSet
import Derived.Lib.AppendStr
import Derived.Deep.QuietTactic
import Derived.BigQuiet
/- Where a disk lies in memory: its struct, its map, its files and their bytes; what a call may turn. -/
namespace Go.Proofs.YtigegdelhpdlhaaGreatDoor
open Go.RowKit Go.Maps

/-- w' is w but for the blocks of S, and for new ones. -/
structure TurnD (S : Nat → Prop) (w w' : World) : Prop where
  os : w'.os = w.os
  tape : w'.tape = w.tape
  output : w'.output = w.output
  size : w.heap.size ≤ w'.heap.size
  block : ∀ i, i < w.heap.size → ¬ S i → w'.heap[i]? = w.heap[i]?

theorem TurnD.refl (S : Nat → Prop) (w : World) : TurnD S w w := ⟨rfl, rfl, rfl, Nat.le_refl _, fun _ _ _ => rfl⟩
theorem TurnD.trans {S : Nat → Prop} {a b c : World} (h : TurnD S a b) (k : TurnD S b c) : TurnD S a c :=
  ⟨k.os.trans h.os, k.tape.trans h.tape, k.output.trans h.output, Nat.le_trans h.size k.size, fun i hi hn => (k.block i (Nat.lt_of_lt_of_le hi h.size) hn).trans (h.block i hi hn)⟩
theorem TurnD.transNew {S S' : Nat → Prop} {a b c : World} (h : TurnD S a b) (k : TurnD S' b c) (hS : ∀ i, S' i → S i ∨ a.heap.size ≤ i) : TurnD S a c :=
  ⟨k.os.trans h.os, k.tape.trans h.tape, k.output.trans h.output, Nat.le_trans h.size k.size, fun i hi hn => (k.block i (Nat.lt_of_lt_of_le hi h.size) (fun h' => by
    rcases hS i h' with h1 | h1
    · exact hn h1
    · omega)).trans (h.block i hi hn)⟩
theorem TurnD.mono {S S' : Nat → Prop} {w w' : World} (h : TurnD S w w') (hS : ∀ i, S i → S' i) : TurnD S' w w' := ⟨h.os, h.tape, h.output, h.size, fun i hi hn => h.block i hi (fun h' => hn (hS i h'))⟩
theorem TurnD.drew {S : Nat → Prop} {a w : World} (h : TurnD S a w) : TurnD S a w.drew := ⟨h.os, h.tape, h.output, h.size, h.block⟩
theorem TurnD.drewN {S : Nat → Prop} {a w : World} (h : TurnD S a w) (n : Nat) : TurnD S a (w.drewN n) := ⟨h.os, h.tape, h.output, h.size, h.block⟩
theorem TurnD.ofGrown {S : Nat → Prop} {w w' : World} {row : Option Nat} (h : w.grownBy w' row) (hr : ∀ k, row = some k → S k) : TurnD S w w' :=
  ⟨h.os, h.tape, h.output, h.size, fun i hi hn => h.block i hi (fun e => hn (hr i e.symm))⟩
theorem TurnD.ofBelow {w w' : World} (S : Nat → Prop) (h : Below w.heap.size w w') : TurnD S w w' := ⟨h.os, h.tape, h.output, h.size, fun i hi _ => h.block i hi⟩
theorem TurnD.toBelow {B : Nat} {w w' : World} (h : TurnD (fun i => B ≤ i) w w') (hB : B ≤ w.heap.size) : Below B w w' :=
  ⟨h.os, h.tape, h.output, h.size, fun i hi => h.block i (by omega) (by omega)⟩
theorem TurnD.alloc {S : Nat → Prop} (w : World) (o : Obj) : TurnD S w (w.alloc o) := ⟨rfl, rfl, rfl, by simp, fun i hi _ => Below.heap_alloc w o i hi⟩
theorem TurnD.setCell {S : Nat → Prop} (w : World) (a : Addr) (v : Value) (h : S a.block) : TurnD S w (w.setCell a v) :=
  ⟨rfl, rfl, rfl, by simp, fun i _ hn => Below.heap_setCell w a v i (fun e => hn (by rw [e]; exact h))⟩

/-! ### blocks -/
theorem heap_setCell_sameD {w : World} {b : Nat} {c : Array Value} {t : TypeId} {fz : Nat × Nat} (h : w.heap[b]? = some (.cells c t fz)) (i : Nat) (v : Value) :
    (w.setCell ⟨b, i, none⟩ v).heap[b]? = some (.cells (c.setIfInBounds i v) t fz) := by
  simp [World.setCell, Array.getElem?_modify, h]
theorem cell_ofD {w : World} {b : Nat} {c : Array Value} {t : TypeId} {fz : Nat × Nat} (h : w.heap[b]? = some (.cells c t fz)) (i : Nat) : w.cell? ⟨b, i, none⟩ = c[i]? := by
  simp [World.cell?, h]
theorem frozen_ofD {w : World} {b : Nat} {c : Array Value} {t : TypeId} (h : w.heap[b]? = some (.cells c t (0, 0))) (i : Nat) : w.frozen? ⟨b, i, none⟩ = false := by
  simp [World.frozen?, h]
theorem lt_ofD {w : World} {b : Nat} {o : Obj} (h : w.heap[b]? = some o) : b < w.heap.size := (Array.getElem?_eq_some_iff.1 h).1

theorem ownsMap_exact {H : Type} {P : Program} {k : TypeId} {R : Value → Option (DataW H × List MemPlace)} {w : World} {b n : Nat} {D : DataW H} (h : w.ownsMap P k R b n D) : w.ownsMap P k R b (Maps.size D) D := by
  obtain ⟨es, clock, hb, F, _, rfl⟩ := h
  exact ⟨es, clock, hb, F, by simp [Maps.size, length_sorted], rfl⟩

theorem ownsMap_block {H : Type} {P : Program} {k : TypeId} {R : Value → Option (DataW H × List MemPlace)} {w w' : World} {b n : Nat} {D : DataW H} (h : w.ownsMap P k R b n D) (e : w'.heap[b]? = w.heap[b]?) : w'.ownsMap P k R b n D := by
  obtain ⟨es, clock, hb, r⟩ := h
  exact ⟨es, clock, e.trans hb, r⟩

theorem ownsRow_blockD {w w' : World} {base : Nat} {e : TypeId} {size : Nat} {v : Value} {n : Nat} {xs : List Value} (h : w.ownsRow base e size v n xs) (hb : ∀ g, v.ownBlock = some g → w'.heap[g]? = w.heap[g]?) : w'.ownsRow base e size v n xs := by
  obtain ⟨h1, h2⟩ := h
  refine ⟨h1, ?_⟩
  rcases h2 with h2 | ⟨g, cap, cur, rfl, hg, hh, r⟩
  · exact Or.inl h2
  · exact Or.inr ⟨g, cap, cur, rfl, hg, (hb g rfl).trans hh, r⟩

theorem ownsRow_zeroD {w : World} {base : Nat} {e : TypeId} {size : Nat} {v : Value} {n : Nat} {xs : List Value} (h : w.ownsRow base e size v n xs) : w.ownsRow 0 e size v n xs := by
  obtain ⟨h1, h2⟩ := h
  refine ⟨h1, ?_⟩
  rcases h2 with h2 | ⟨g, cap, cur, rfl, hg, r⟩
  · exact Or.inl h2
  · exact Or.inr ⟨g, cap, cur, rfl, Nat.zero_le _, r⟩

theorem ownsRow_ownD {w : World} {base : Nat} {e : TypeId} {v : Value} {n : Nat} {xs : List Value} (h : w.ownsRow base e 1 v n xs) {g : Nat} (hv : v.ownBlock = some g) : ∃ cur, w.heap[g]? = some (.cells cur e (0, 0)) ∧ base ≤ g := by
  rcases h.2 with ⟨rfl, _⟩ | ⟨g', cap, cur, rfl, hb, hg, _⟩
  · cases hv
  · cases hv; exact ⟨cur, hg, hb⟩

/-! ### the disk in memory -/
/-- How a pointer to a file reads: its block's number. -/
def ptrR : Value → Option (DataW Unit × List MemPlace)
  | .pointer none => some (.nil, [])
  | .pointer (some ⟨b, 0, none⟩) => some (.lit (.int .i64 (b : Int)), [])
  | _ => none
theorem ptrR_inv {v : Value} {b : Nat} {ps : List MemPlace} (h : ptrR v = some (.lit (.int .i64 (b : Int)), ps)) : v = .pointer (some ⟨b, 0, none⟩) := by
  unfold ptrR at h
  split at h
  · simp at h
  · simp at h
    have e := Int.ofNat.inj h.1
    rw [e]
  · cases h
theorem ptrR_nil {v : Value} {ps : List MemPlace} (h : ptrR v = some (.nil, ps)) : v = .pointer none := by
  unfold ptrR at h
  split at h
  · rfl
  · simp at h
  · cases h

/-- A file's places: the block of its struct, the slice of its bytes. -/
structure Gc where
  blk : Nat
  val : Value
  fil : Dk.Fil

def tok (g : Gc) : DataW Unit := .lit (.int .i64 (g.blk : Int))
def bcellsD (l : List UInt8) : List Value := l.map fun b => Value.int .u8 b.toNat

structure FileAt (w : World) (g : Gc) : Prop where
  cell : w.heap[g.blk]? = some (.cells #[g.val, .int .i64 (g.fil.safe : Int)] 89 (0, 0))
  row : w.ownsRow 0 5 1 g.val g.fil.data.length (bcellsD g.fil.data)
  safe : g.fil.safe ≤ g.fil.data.length
  len : g.fil.data.length ≤ 262144

def Apart (a b : Gc) : Prop := a.blk ≠ b.blk ∧ ∀ i, a.val.ownBlock = some i → b.val.ownBlock ≠ some i

structure DiskG (P : Program) (w : World) (d m : Nat) (G : List (List UInt8 × Gc)) (s : Dk.Dsk) : Prop where
  top : w.heap[d]? = some (.cells #[.map (some m), .bool s.down, .bool s.fused, .int .i64 (s.left : Int)] 67 (0, 0))
  map : w.ownsMap P 9 ptrR m G.length (Dk.toD tok G)
  files : ∀ p ∈ G, FileAt w p.2
  apart : G.Pairwise (fun a b => Apart a.2 b.2)
  fs : s.fs = Dk.mapL Gc.fil G
  names : ∀ p ∈ G, Dk.okName p.1 = true
  left : s.left ≤ 9223372036854775807
  few : G.length ≤ 64

def foot (d m : Nat) (G : List (List UInt8 × Gc)) (i : Nat) : Prop := i = d ∨ i = m ∨ ∃ p ∈ G, i = p.2.blk ∨ p.2.val.ownBlock = some i

theorem DiskG.lt {P : Program} {w : World} {d m : Nat} {G : List (List UInt8 × Gc)} {s : Dk.Dsk} (h : DiskG P w d m G s) {i : Nat} (hi : foot d m G i) : i < w.heap.size := by
  rcases hi with rfl | rfl | ⟨p, hp, rfl | hv⟩
  · exact lt_ofD h.top
  · exact h.map.lt
  · exact lt_ofD (h.files p hp).cell
  · obtain ⟨cur, hc, _⟩ := ownsRow_ownD (h.files p hp).row hv
    exact lt_ofD hc

theorem FileAt.kept {w w' : World} {g : Gc} (h : FileAt w g) (e1 : w'.heap[g.blk]? = w.heap[g.blk]?) (e2 : ∀ i, g.val.ownBlock = some i → w'.heap[i]? = w.heap[i]?) : FileAt w' g :=
  ⟨e1.trans h.cell, ownsRow_blockD h.row e2, h.safe, h.len⟩

/-- A disk stays what it is while nothing of its own is turned. -/
theorem DiskG.kept {P : Program} {w w' : World} {d m : Nat} {G : List (List UInt8 × Gc)} {s : Dk.Dsk} (h : DiskG P w d m G s) {S : Nat → Prop} (ht : TurnD S w w') (hS : ∀ i, foot d m G i → ¬ S i) : DiskG P w' d m G s := by
  have e : ∀ i, foot d m G i → w'.heap[i]? = w.heap[i]? := fun i hi => ht.block i (h.lt hi) (hS i hi)
  refine ⟨(e d (Or.inl rfl)).trans h.top, ownsMap_block h.map (e m (Or.inr (Or.inl rfl))), fun p hp => ?_, h.apart, h.fs, h.names, h.left, h.few⟩
  exact (h.files p hp).kept (e _ (Or.inr (Or.inr ⟨p, hp, Or.inl rfl⟩))) (fun i hi => e i (Or.inr (Or.inr ⟨p, hp, Or.inr hi⟩)))

/-- The disk's struct alone is turned. -/
theorem DiskG.topped {P : Program} {w w' : World} {d m : Nat} {G : List (List UInt8 × Gc)} {s s' : Dk.Dsk} (h : DiskG P w d m G s) (ht : TurnD (fun i => i = d) w w')
    (htop : w'.heap[d]? = some (.cells #[.map (some m), .bool s'.down, .bool s'.fused, .int .i64 (s'.left : Int)] 67 (0, 0))) (hfs : s'.fs = s.fs) (hl : s'.left ≤ 9223372036854775807) : DiskG P w' d m G s' := by
  have hm : m ≠ d := by
    intro e
    obtain ⟨es, clock, hb, _⟩ := h.map
    rw [e, h.top] at hb
    simp at hb
  refine ⟨htop, ownsMap_block h.map (ht.block m h.map.lt hm), fun p hp => ?_, h.apart, hfs.trans h.fs, h.names, hl, h.few⟩
  have hf := h.files p hp
  refine hf.kept (ht.block _ (lt_ofD hf.cell) (fun e => ?_)) (fun i hi => ?_)
  · have := hf.cell
    rw [e, h.top] at this
    simp at this
  · obtain ⟨cur, hc, _⟩ := ownsRow_ownD hf.row hi
    refine ht.block i (lt_ofD hc) (fun e => ?_)
    rw [e, h.top] at hc
    simp at hc

end Go.Proofs.YtigegdelhpdlhaaGreatDoor

/- What the disk's small functions do: change, find, tail, Fuse, New. -/
namespace Go.Proofs.YtigegdelhpdlhaaGreatDoor
open Go.RowKit Go.Maps

theorem ret_intD {k : IntKind} {a b : Int} (h : a = b) : Ending.returned (.int k a) = .returned (.int k b) := by rw [h]

/-- the four cells of a disk's struct -/
theorem DiskG.cells {P : Program} {w : World} {d m : Nat} {G : List (List UInt8 × Gc)} {s : Dk.Dsk} (h : DiskG P w d m G s) :
    w.cell? ⟨d, 0, none⟩ = some (.map (some m)) ∧ w.cell? ⟨d, 0 + 1, none⟩ = some (.bool s.down) ∧ w.cell? ⟨d, 0 + 2, none⟩ = some (.bool s.fused) ∧ w.cell? ⟨d, 0 + 3, none⟩ = some (.int .i64 (s.left : Int)) :=
  ⟨by rw [cell_ofD h.top]; rfl, by rw [cell_ofD h.top]; rfl, by rw [cell_ofD h.top]; rfl, by rw [cell_ofD h.top]; rfl⟩

set_option maxHeartbeats 400000 in
theorem change_any {d m : Nat} {G : List (List UInt8 × Gc)} {s : Dk.Dsk} (w : World) (h : DiskG Tryz.prog w d m G s) :
    Calls Tryz.prog 50 #[.pointer (some ⟨d, 0, none⟩)] w fun e w' => e = .returned (.int .i64 (Dk.changeE s)) ∧ DiskG Tryz.prog w' d m G (Dk.changeS s) ∧ TurnD (fun i => i = d) w w' := by
  have H : Hid (DiskG Tryz.prog w d m G s) := h
  obtain ⟨c0, c1, c2, c3⟩ := h.cells
  have f1 := frozen_ofD h.top 1
  have f3 := frozen_ofD h.top 3
  have hl := h.left
  clear h
  cases hf : s.fused <;> cases hd : s.down <;> rw [hf] at c2 <;> rw [hd] at c1 <;> simp only [Nat.zero_add] at c1 c2 c3
  all_goals go_enter Tryz.func50, Tryz.ntmps50
  all_goals go_wp2
  all_goals go_ret
  · refine ⟨ret_intD (by simp [Dk.changeE, Dk.burnt, hf, hd]), ?_, TurnD.refl _ _⟩
    rw [show Dk.changeS s = s from by simp [Dk.changeS, Dk.burnt, hf, hd]]
    exact H.out
  · refine ⟨ret_intD (by simp [Dk.changeE, Dk.burnt, hd]), ?_, TurnD.refl _ _⟩
    refine H.out.topped (TurnD.refl _ _) ?_ (by simp [Dk.changeS, Dk.burnt, hd]) (by simpa [Dk.changeS, Dk.burnt, hd] using hl)
    rw [H.out.top]
    simp [Dk.changeS, Dk.burnt, hd]
  · have hz : s.left = 0 := by have := eq_of_beq ‹((s.left : Int) == 0) = true›; omega
    refine ⟨ret_intD (by simp [Dk.changeE, Dk.burnt, hf, hz]), ?_, TurnD.setCell _ _ _ rfl⟩
    refine H.out.topped (TurnD.setCell _ _ _ rfl) ?_ (by simp [Dk.changeS, Dk.burnt, hf, hz]) (by simp [Dk.changeS, Dk.burnt, hf, hz])
    rw [heap_setCell_sameD H.out.top]
    simp [Dk.changeS, Dk.burnt, hf, hz]
  · have hz : s.left ≠ 0 := by intro e; rename_i hh; rw [e] at hh; simp at hh
    refine ⟨ret_intD (by simp [Dk.changeE, Dk.burnt, hd, hz]), ?_, TurnD.setCell _ _ _ rfl⟩
    refine H.out.topped (TurnD.setCell _ _ _ rfl) ?_ (by simp [Dk.changeS, Dk.burnt, hf, hd, hz]) (by simp [Dk.changeS, Dk.burnt, hf, hd, hz]; omega)
    rw [heap_setCell_sameD H.out.top]
    simp [Dk.changeS, Dk.burnt, hf, hd, hz]
    omega
  · refine ⟨ret_intD (by simp [Dk.changeE, Dk.burnt, hd]), ?_, TurnD.setCell _ _ _ rfl⟩
    refine H.out.topped (TurnD.setCell _ _ _ rfl) ?_ (by simp [Dk.changeS, Dk.burnt, hd]) (by simpa [Dk.changeS, Dk.burnt, hd] using hl)
    rw [heap_setCell_sameD H.out.top]
    simp [Dk.changeS, Dk.burnt, hd]
  · refine ⟨ret_intD (by simp [Dk.changeE, Dk.burnt, hd]), ?_, TurnD.refl _ _⟩
    refine H.out.topped (TurnD.refl _ _) ?_ (by simp [Dk.changeS, Dk.burnt, hd]) (by simpa [Dk.changeS, Dk.burnt, hd] using hl)
    rw [H.out.top]
    simp [Dk.changeS, Dk.burnt, hd]

set_option maxHeartbeats 400000 in
theorem fuse_any {d m : Nat} {G : List (List UInt8 × Gc)} {s : Dk.Dsk} (n : Int) (w : World) (h : DiskG Tryz.prog w d m G s) (hn : n ≤ 9223372036854775807) :
    Calls Tryz.prog 12 #[.pointer (some ⟨d, 0, none⟩), .int .i64 n] w fun e w' => e = .returned (.int .i64 (Dk.fuseE n)) ∧ DiskG Tryz.prog w' d m G (Dk.fuseS s n) ∧ TurnD (fun i => i = d) w w' := by
  have H : Hid (DiskG Tryz.prog w d m G s) := h
  obtain ⟨c0, c1, c2, c3⟩ := h.cells
  have f2 := frozen_ofD h.top 2
  have f3 := frozen_ofD h.top 3
  simp only [Nat.zero_add] at c1 c2 c3
  clear h
  by_cases hlt : n < 0
  · go_enter Tryz.func12, Tryz.ntmps12
    go_wp2
    go_ret
    refine ⟨ret_intD (by simp [Dk.fuseE, hlt]), ?_, TurnD.refl _ _⟩
    rw [show Dk.fuseS s n = s from by simp [Dk.fuseS, hlt]]
    exact H.out
  · go_enter Tryz.func12, Tryz.ntmps12
    go_wp2
    go_ret
    have ht : ∀ (v v' : Value), TurnD (fun i => i = d) w ((w.setCell ⟨d, 2, none⟩ v).setCell ⟨d, 3, none⟩ v') := fun v v' => (TurnD.setCell (S := fun i => i = d) w ⟨d, 2, none⟩ v rfl).trans (TurnD.setCell _ ⟨d, 3, none⟩ v' rfl)
    have hlt' : ¬ n < 0 := by omega
    refine ⟨ret_intD (by simp [Dk.fuseE, hlt']), ?_, ht _ _⟩
    refine H.out.topped (ht _ _) ?_ (by simp [Dk.fuseS, hlt']) (by simp [Dk.fuseS, hlt']; omega)
    rw [heap_setCell_sameD (heap_setCell_sameD H.out.top _ _)]
    simp [Dk.fuseS, hlt']
    omega

set_option maxHeartbeats 400000 in
theorem new_any (w : World) :
    Calls Tryz.prog 7 #[] w fun e w' => e = .returned (.pointer (some ⟨w.heap.size + 1, 0, none⟩)) ∧ DiskG Tryz.prog w' (w.heap.size + 1) w.heap.size [] Dk.blank ∧ Below w.heap.size w w' := by
  have hmm := @run_makeMap Tryz.prog
  go_enter Tryz.func7, Tryz.ntmps7
  go_wp2
  go_ret
  refine ⟨rfl, ⟨?_, ?_, by simp, List.Pairwise.nil, rfl, by simp, by simp [Dk.blank], by simp⟩, ((Below.refl _ _).alloc (Nat.le_refl _) _).alloc (by simp) _⟩
  · have e := heap_alloc_new (w.alloc (.map #[] 0)) (.cells #[.map (some w.heap.size), .bool false, .bool false, .int .i64 0] 67 (0, 0))
    rw [World.size_alloc] at e
    exact e
  · exact (World.ownsMap_made w Tryz.prog 9 ptrR).alloc _

end Go.Proofs.YtigegdelhpdlhaaGreatDoor
