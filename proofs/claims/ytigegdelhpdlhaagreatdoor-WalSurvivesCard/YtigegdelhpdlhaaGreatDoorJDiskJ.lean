import Derived.Test.YtigegdelhpdlhaaGreatDoorJToldJ
import Derived.Test.YtigegdelhpdlhaaGreatDoorCrashJ
import Derived.Test.YtigegdelhpdlhaaGreatDoorBase
import Derived.Test.YtigegdelhpdlhaaGreatDoorProg
import Derived.WalkKit
import Derived.WalkSpells
import Derived.WalkLawsBesides
import Derived.Laws.BitsAllLaws
/- Layer 18: the disk's calls as what becomes of an object (Goes of Base), over stage 1's contracts (v18). -/
namespace Go.Proofs.YtigegdelhpdlhaaGreatDoor
open Go.RowKit Go.Maps

theorem TurnD.to {S : Nat → Prop} {w w' : World} (h : TurnD S w w') : Turn S w w' := ⟨h.os, h.tape, h.output, h.size, h.block⟩
theorem Turn.toD {S : Nat → Prop} {w w' : World} (h : Turn S w w') : TurnD S w w' := ⟨h.os, h.tape, h.output, h.size, h.block⟩
/-- the disk d, as stage 1's plain model has it -/
def DiskI (d : Nat) (s : Dk.Dsk) (w : World) (F : Nat → Prop) : Prop := ∃ m G, DiskG Tryz.prog w d m G s ∧ ∀ i, F i ↔ foot d m G i
theorem DiskI.res (d : Nat) (s : Dk.Dsk) : Res (DiskI d s) := by
  refine ⟨fun {w F} h i hi => ?_, fun {w w' F S} h ht hS => ?_⟩
  · obtain ⟨m, G, h1, h2⟩ := h
    exact h1.lt ((h2 i).1 hi)
  · obtain ⟨m, G, h1, h2⟩ := h
    exact ⟨m, G, h1.kept ht.toD (fun i hi => hS i ((h2 i).2 hi)), h2⟩
theorem GoesD.to {d m : Nat} {G : List (List UInt8 × Gc)} {s' : Dk.Dsk} {w w' : World} {F : Nat → Prop} (hF : ∀ i, F i ↔ foot d m G i) (h : GoesD w w' d m G s') : Goes (DiskI d s') w w' F := by
  obtain ⟨G', h1, h2, h3⟩ := h
  exact ⟨foot d m G', ⟨m, G', h1, fun _ => Iff.rfl⟩, h2.to.mono fun i hi => (hF i).2 hi, fun i hi => (h3 i hi).imp (hF i).2 id⟩
theorem disk_top {d m : Nat} {G : List (List UInt8 × Gc)} {s' : Dk.Dsk} {w w' : World} {F : Nat → Prop} (hF : ∀ i, F i ↔ foot d m G i) (h : DiskG Tryz.prog w' d m G s') (ht : TurnD (fun i => i = d) w w') : Goes (DiskI d s') w w' F :=
  GoesD.to hF (GoesD.top h ht)

section
variable {d : Nat} {s : Dk.Dsk} {w : World} {F : Nat → Prop}
theorem dnew_i (w : World) : Calls Tryz.prog 7 #[] w fun e w' => ∃ d F, e = .returned (.pointer (some ⟨d, 0, none⟩)) ∧ DiskI d Dk.blank w' F ∧ (∀ i, F i → w.heap.size ≤ i) ∧ Below w.heap.size w w' :=
  (new_any w).mono fun e w' ⟨e1, h1, h2⟩ => by
    refine ⟨w.heap.size + 1, _, e1, ⟨w.heap.size, [], h1, fun _ => Iff.rfl⟩, fun i hi => ?_, h2⟩
    rcases hi with hi | hi | ⟨p, hp, _⟩
    · omega
    · omega
    · cases hp
theorem dappend_i (k data : ByteArray) (h : DiskI d s w F) (hk : k.size ≤ maxLen) (hds : data.size ≤ maxLen) :
    Calls Tryz.prog 24 #[.pointer (some ⟨d, 0, none⟩), .string k, .string data] w fun e w' => e = .returned (.int .i64 (Dk.appendE s k.data.toList data.data.toList)) ∧ Goes (DiskI d (Dk.appendS s k.data.toList data.data.toList)) w w' F := by
  obtain ⟨m, G, h1, h2⟩ := h
  exact (append_any k data w h1 hk hds).mono fun e w' ⟨e1, hg⟩ => ⟨e1, hg.to h2⟩
theorem dsync_i (k : ByteArray) (h : DiskI d s w F) (hk : k.size ≤ maxLen) :
    Calls Tryz.prog 25 #[.pointer (some ⟨d, 0, none⟩), .string k] w fun e w' => e = .returned (.int .i64 (Dk.syncE s k.data.toList)) ∧ Goes (DiskI d (Dk.syncS s k.data.toList)) w w' F := by
  obtain ⟨m, G, h1, h2⟩ := h
  exact (sync_any k w h1 hk).mono fun e w' ⟨e1, hg⟩ => ⟨e1, hg.to h2⟩
theorem dread_i (k : ByteArray) (h : DiskI d s w F) (hk : k.size ≤ maxLen) :
    Calls Tryz.prog 22 #[.pointer (some ⟨d, 0, none⟩), .string k] w fun e w' => e = .returned (.tuple #[.string ⟨(Dk.readV s k.data.toList).toArray⟩, .int .i64 (Dk.findE s k.data.toList)]) ∧ w' = w := by
  obtain ⟨m, G, h1, _⟩ := h
  exact read_any k w h1 hk
theorem dremove_i (k : ByteArray) (h : DiskI d s w F) (hk : k.size ≤ maxLen) :
    Calls Tryz.prog 23 #[.pointer (some ⟨d, 0, none⟩), .string k] w fun e w' => e = .returned (.int .i64 (Dk.removeE s k.data.toList)) ∧ Goes (DiskI d (Dk.removeS s k.data.toList)) w w' F := by
  obtain ⟨m, G, h1, h2⟩ := h
  exact (remove_any k w h1 hk).mono fun e w' ⟨e1, hg⟩ => ⟨e1, hg.to h2⟩
theorem drename_i (k k' : ByteArray) (h : DiskI d s w F) (hk : k.size ≤ maxLen) (hk' : k'.size ≤ maxLen) :
    Calls Tryz.prog 82 #[.pointer (some ⟨d, 0, none⟩), .string k, .string k'] w fun e w' => e = .returned (.int .i64 (Dk.renameE s k.data.toList k'.data.toList)) ∧ Goes (DiskI d (Dk.renameS s k.data.toList k'.data.toList)) w w' F := by
  obtain ⟨m, G, h1, h2⟩ := h
  exact (rename_any k k' w h1 hk hk').mono fun e w' ⟨e1, hg⟩ => ⟨e1, hg.to h2⟩
theorem dfuse_i (n : Int) (h : DiskI d s w F) (hn : n ≤ 9223372036854775807) :
    Calls Tryz.prog 12 #[.pointer (some ⟨d, 0, none⟩), .int .i64 n] w fun e w' => e = .returned (.int .i64 (Dk.fuseE n)) ∧ Goes (DiskI d (Dk.fuseS s n)) w w' F := by
  obtain ⟨m, G, h1, h2⟩ := h
  exact (fuse_any n w h1 hn).mono fun e w' ⟨e1, hg, ht⟩ => ⟨e1, disk_top h2 hg ht⟩
/-- the names, in order -/
theorem dnames_i (h : DiskI d s w F) : Calls Tryz.prog 42 #[.pointer (some ⟨d, 0, none⟩)] w fun e w' => ∃ v, e = .returned v ∧ w'.ownsRow w.heap.size 9 1 v s.fs.length ((Dk.keysL s.fs).map encStr) ∧ Below w.heap.size w w' := by
  obtain ⟨m, G, h1, _⟩ := h
  refine (names_any w h1).mono fun e w' ⟨v, e1, h2, h3⟩ => ⟨v, e1, ?_, h3⟩
  rw [h1.len_fs]
  have e : Dk.keysL s.fs = Dk.keysL G := by rw [h1.fs, Dk.keysL_mapL]
  rw [e]
  exact h2
end
end Go.Proofs.YtigegdelhpdlhaaGreatDoor

/- The sum of bytes, bit by bit, in plain words: what it is, that it is linear, that two states that differ go on differing. -/
namespace Go.Proofs.YtigegdelhpdlhaaGreatDoor

def crcBit (s : Nat) : Nat := if s % 2 = 1 then (s / 2) ^^^ 3988292384 else s / 2

def crcBits : Nat → Nat → Nat
  | 0, s => s
  | n + 1, s => crcBits n (crcBit s)

def crcOn (s : Nat) (b : List UInt8) : Nat := b.foldl (fun u c => crcBits 8 (u ^^^ c.toNat)) s

theorem crcOn_nil (s : Nat) : crcOn s [] = s := rfl
theorem crcOn_cons (s : Nat) (c : UInt8) (r : List UInt8) : crcOn s (c :: r) = crcOn (crcBits 8 (s ^^^ c.toNat)) r := rfl

def crc (b : List UInt8) : Nat := crcOn 4294967295 b ^^^ 4294967295

theorem xor_lt32 {a b : Nat} (ha : a < 4294967296) (hb : b < 4294967296) : a ^^^ b < 4294967296 := Nat.xor_lt_two_pow (n := 32) ha hb

theorem crcBit_lt {s : Nat} (h : s < 4294967296) : crcBit s < 4294967296 := by
  unfold crcBit
  split
  · exact xor_lt32 (by omega) (by omega)
  · omega

theorem crcBits_lt : ∀ (n : Nat) {s : Nat}, s < 4294967296 → crcBits n s < 4294967296
  | 0, _, h => h
  | n + 1, _, h => crcBits_lt n (crcBit_lt h)

theorem byte_lt32 (c : UInt8) : c.toNat < 4294967296 := Nat.lt_of_lt_of_le c.toNat_lt (by decide)

theorem crcOn_lt : ∀ (b : List UInt8) {s : Nat}, s < 4294967296 → crcOn s b < 4294967296
  | [], _, h => h
  | c :: r, _, h => crcOn_lt r (crcBits_lt 8 (xor_lt32 h (byte_lt32 c)))

theorem crc_lt (b : List UInt8) : crc b < 4294967296 := xor_lt32 (crcOn_lt b (by decide)) (by decide)

theorem xor_half (a b : Nat) : (a ^^^ b) / 2 = a / 2 ^^^ b / 2 := by
  have := Nat.shiftRight_xor_distrib (a := a) (b := b) (i := 1)
  simpa [Nat.shiftRight_eq_div_pow] using this

theorem xor_low (a b : Nat) : (a ^^^ b) % 2 = (a % 2 + b % 2) % 2 := by
  have h := Nat.xor_mod_two_pow (a := a) (b := b) (n := 1)
  simp only [Nat.pow_one] at h
  rw [h]
  rcases Nat.mod_two_eq_zero_or_one a with p | p <;> rcases Nat.mod_two_eq_zero_or_one b with q | q <;> rw [p, q] <;> decide

theorem xor_swap (a b c d : Nat) : (a ^^^ b) ^^^ (c ^^^ d) = (a ^^^ c) ^^^ (b ^^^ d) := by
  rw [Nat.xor_assoc, Nat.xor_assoc, ← Nat.xor_assoc b, ← Nat.xor_assoc c, Nat.xor_comm b c]

theorem crcBit_xor (a b : Nat) : crcBit (a ^^^ b) = crcBit a ^^^ crcBit b := by
  unfold crcBit
  have h := xor_low a b
  rw [xor_half]
  rcases Nat.mod_two_eq_zero_or_one a with p | p <;> rcases Nat.mod_two_eq_zero_or_one b with q | q <;> rw [p, q] at h <;> simp only [p, q, h] <;> simp
  · exact Nat.xor_assoc ..
  · rw [Nat.xor_assoc, Nat.xor_assoc, Nat.xor_comm (b / 2)]
  · rw [xor_swap, Nat.xor_self, Nat.xor_zero]

theorem crcBits_xor : ∀ (n a b : Nat), crcBits n (a ^^^ b) = crcBits n a ^^^ crcBits n b
  | 0, _, _ => rfl
  | n + 1, a, b => by
    simp only [crcBits]
    rw [crcBit_xor, crcBits_xor n]

/-- bytes, each the difference of two -/
def xorL : List UInt8 → List UInt8 → List UInt8
  | a :: x, b :: y => (a ^^^ b) :: xorL x y
  | _, _ => []

theorem crcOn_xor (x y : List UInt8) (s t : Nat) (h : x.length = y.length) : crcOn (s ^^^ t) (xorL x y) = crcOn s x ^^^ crcOn t y := by
  induction x generalizing y s t with
  | nil =>
    cases y with
    | nil => simp only [xorL, crcOn_nil]
    | cons b y => simp at h
  | cons a x ih =>
    cases y with
    | nil => simp at h
    | cons b y =>
      have e : xorL (a :: x) (b :: y) = (a ^^^ b) :: xorL x y := rfl
      rw [e, crcOn_cons, crcOn_cons, crcOn_cons, ← ih y _ _ (Nat.succ.inj h), ← crcBits_xor, UInt8.toNat_xor, xor_swap]

theorem xorL_zero : ∀ (x : List UInt8), xorL x (List.replicate x.length 0) = x
  | [] => rfl
  | a :: x => by simp [xorL, List.replicate, xorL_zero x]

theorem xorL_length : ∀ (x y : List UInt8), x.length = y.length → (xorL x y).length = x.length
  | [], [], _ => rfl
  | [], _ :: _, h => by cases h
  | _ :: _, [], h => by cases h
  | a :: x, b :: y, h => by simp [xorL, xorL_length x y (Nat.succ.inj h)]

/-- the sum of the differences is that of the sums and of noughts -/
theorem crc_xor (x y : List UInt8) (h : x.length = y.length) : crc (xorL x y) = crc x ^^^ crc y ^^^ crc (List.replicate x.length 0) := by
  have e : ∀ s : Nat, crcOn s (xorL x y) = crcOn s x ^^^ crcOn s y ^^^ crcOn s (List.replicate x.length 0) := by
    intro s
    have h1 := crcOn_xor (xorL x y) (List.replicate (xorL x y).length 0) (s ^^^ s) s (by simp)
    rw [xorL_zero, crcOn_xor x y s s h, xorL_length x y h, Nat.xor_assoc s s s, Nat.xor_self, Nat.xor_zero] at h1
    exact h1
  unfold crc
  rw [e]
  generalize crcOn 4294967295 x = p
  generalize crcOn 4294967295 y = q
  generalize crcOn 4294967295 (List.replicate x.length 0) = r
  rw [xor_swap p 4294967295 q 4294967295, Nat.xor_self, Nat.xor_zero, ← Nat.xor_assoc]

theorem xor_ne {a b : Nat} (h : a ≠ b) (c : Nat) : a ^^^ c ≠ b ^^^ c := fun e => h (by
  have := congrArg (· ^^^ c) e
  simpa [Nat.xor_assoc] using this)

theorem crcBit_zero {s : Nat} (h : s < 4294967296) (e : crcBit s = 0) : s = 0 := by
  unfold crcBit at e
  split at e
  · have h1 : s / 2 = 3988292384 := by
      have := congrArg (· ^^^ 3988292384) e
      simpa [Nat.xor_assoc] using this
    omega
  · omega

theorem crcBits_zero : ∀ (n : Nat) {s : Nat}, s < 4294967296 → crcBits n s = 0 → s = 0
  | 0, _, _, e => e
  | n + 1, _, h, e => crcBit_zero h (crcBits_zero n (crcBit_lt h) e)

theorem crcBits_ne {s t : Nat} (n : Nat) (hs : s < 4294967296) (ht : t < 4294967296) (h : s ≠ t) : crcBits n s ≠ crcBits n t := by
  intro e
  have z : crcBits n (s ^^^ t) = 0 := by rw [crcBits_xor, e, Nat.xor_self]
  have := crcBits_zero n (xor_lt32 hs ht) z
  apply h
  have := congrArg (· ^^^ t) this
  simpa [Nat.xor_assoc] using this

/-- two states that differ go on differing -/
theorem crcOn_ne : ∀ (b : List UInt8) {s t : Nat}, s < 4294967296 → t < 4294967296 → s ≠ t → crcOn s b ≠ crcOn t b
  | [], _, _, _, _, h => h
  | c :: r, _, _, hs, ht, h => crcOn_ne r (crcBits_lt 8 (xor_lt32 hs (byte_lt32 c))) (crcBits_lt 8 (xor_lt32 ht (byte_lt32 c))) (crcBits_ne 8 (xor_lt32 hs (byte_lt32 c)) (xor_lt32 ht (byte_lt32 c)) (xor_ne h _))

theorem crcOn_append : ∀ (a b : List UInt8) (s : Nat), crcOn s (a ++ b) = crcOn (crcOn s a) b
  | [], _, _ => rfl
  | c :: a, b, s => by rw [List.cons_append, crcOn_cons, crcOn_cons, crcOn_append a b]

/-- one byte that is another one: another sum -/
theorem crc_torn (a b : List UInt8) (c d : UInt8) (h : c ≠ d) : crc (a ++ c :: b) ≠ crc (a ++ d :: b) := by
  unfold crc
  refine xor_ne ?_ _
  rw [crcOn_append, crcOn_append]
  have hs : crcOn 4294967295 a < 4294967296 := crcOn_lt a (by decide)
  rw [crcOn_cons, crcOn_cons]
  refine crcOn_ne b (crcBits_lt 8 (xor_lt32 hs (byte_lt32 c))) (crcBits_lt 8 (xor_lt32 hs (byte_lt32 d))) (crcBits_ne 8 (xor_lt32 hs (byte_lt32 c)) (xor_lt32 hs (byte_lt32 d)) ?_)
  intro e
  apply h
  rw [Nat.xor_comm _ c.toNat, Nat.xor_comm _ d.toNat] at e
  have : c.toNat = d.toNat := Classical.byContradiction fun n => xor_ne n _ e
  exact UInt8.toNat_inj.1 this

end Go.Proofs.YtigegdelhpdlhaaGreatDoor

/- The document's sum of bytes is the plain one. -/
namespace Go.Proofs.YtigegdelhpdlhaaGreatDoor
open Go.RowKit

theorem crcBits_succ : ∀ (n s : Nat), crcBits (n + 1) s = crcBit (crcBits n s)
  | 0, _ => rfl
  | n + 1, s => by rw [show crcBits (n + 1 + 1) s = crcBits (n + 1) (crcBit s) from rfl, crcBits_succ n]; rfl

theorem crcOn_take (b : ByteArray) (s j : Nat) (hj : j < b.size) : crcOn s (b.data.toList.take (j + 1)) = crcBits 8 (crcOn s (b.data.toList.take j) ^^^ b[j].toNat) := by
  rw [List.take_succ_eq_append_getElem (by simpa using hj), crcOn_append, crcOn_cons, crcOn_nil]
  rfl

theorem crcBit_odd {s : Nat} (h : s % 2 = 1) : crcBit s = (s / 2) ^^^ 3988292384 := by unfold crcBit; rw [if_pos h]
theorem crcBit_even {s : Nat} (h : s % 2 = 0) : crcBit s = s / 2 := by unfold crcBit; rw [if_neg (by omega)]

end Go.Proofs.YtigegdelhpdlhaaGreatDoor
