import Derived.Test.YtigegdelhpdlhaaGreatDoorJNameJ
import Derived.Test.YtigegdelhpdlhaaGreatDoorJDiskJ
import Derived.Test.YtigegdelhpdlhaaGreatDoorFFramesJ
import Derived.Test.YtigegdelhpdlhaaGreatDoorFFrameJ
/- Layer 18: a file's frames: whole ones, and what a crash has torn behind them. -/
namespace Go.Proofs.YtigegdelhpdlhaaGreatDoor
open Go.RowKit QP

/-- frames, one behind the other -/
def flatF (Bs : List ByteArray) : List UInt8 := (Bs.map fun b => (frameB b).data.toList).flatten
/-- the beginning of a frame, not whole -/
def TornF (T : List UInt8) : Prop := ∃ (b : ByteArray) (c : Nat), b.size ≤ 65536 ∧ c < b.size + 8 ∧ T = (frameB b).data.toList.take c
theorem torn_nil : TornF [] := ⟨⟨#[]⟩, 0, by decide, by decide, rfl⟩
theorem flatF_cons (b : ByteArray) (Bs : List ByteArray) : flatF (b :: Bs) = (frameB b).data.toList ++ flatF Bs := rfl
theorem flatF_append (As Bs : List ByteArray) : flatF (As ++ Bs) = flatF As ++ flatF Bs := by unfold flatF; rw [List.map_append, List.flatten_append]
theorem frameB_len (b : ByteArray) : (frameB b).data.toList.length = b.size + 8 := by
  have h : (frameB b).data.toList.length = (frameB b).size := rfl
  rw [h, frameB_size]

theorem found_end (x : ByteArray) (A T : List UInt8) (hx : x.data.toList = A ++ T) (ht : TornF T) : (found x A.length).code = 61 := by
  obtain ⟨b, c, hb, hc, rfl⟩ := ht
  have hlen := congrArg List.length hx
  rw [List.length_append, List.length_take, frameB_len] at hlen
  have hxs : x.data.toList.length = x.size := rfl
  rw [hxs] at hlen
  unfold found
  rw [if_neg (by omega), show ((A.length : Int)).toNat = A.length by omega]
  by_cases h4 : x.size < A.length + 4
  · rw [if_pos h4]
  rw [if_neg h4]
  have hl : lenAt x A.length = b.size := by
    unfold lenAt
    rw [extract_list, hx, show A.length + 4 = A.length + 4 from rfl, List.take_append, List.drop_append]
    have e1 : (A.take (A.length + 4)).drop A.length = [] := by rw [List.take_of_length_le (by omega), List.drop_length]
    have e2 : (A.take (A.length + 4)).length = A.length := by rw [List.length_take]; omega
    rw [e1, e2, Nat.sub_self, List.drop_zero, List.nil_append, show A.length + 4 - A.length = 4 by omega, List.take_take, show min 4 c = 4 by omega, frameB_parts, List.append_assoc, show (4 : Nat) = (le4 b.size).length by rw [le4_len], List.take_left]
    have := un4_le4 (n := b.size) (by omega) []
    rw [List.append_nil] at this
    exact this
  rw [hl, if_neg (by omega), if_pos (by omega)]

theorem frames_of (x : ByteArray) (T : List UInt8) (ht : TornF T) : ∀ (Bs : List ByteArray) (A : List UInt8), (∀ b ∈ Bs, b.size ≤ 65536) → x.data.toList = A ++ flatF Bs ++ T → framesAt x A.length = (Bs.map (fun b => b.data.toList), A.length + (flatF Bs).length)
  | [], A, _, hx => by
    have h : (found x A.length).code = 61 := found_end x A T (by rw [hx]; simp [flatF]) ht
    rw [framesAt_end (by rw [h]; decide)]
    rfl
  | b :: Bs, A, hs, hx => by
    have hb := hs b (List.mem_cons_self ..)
    rw [flatF_cons] at hx
    have hf := found_frame x b A (flatF Bs ++ T) (by rw [hx]; simp only [List.append_assoc]) hb
    have h0 : (found x A.length).code = 0 := by rw [hf]
    have hk : (found x A.length).stop = ((A.length + 8 + b.size : Nat) : Int) := by rw [hf]; show (A.length : Int) + 8 + b.size = _; omega
    rw [framesAt_next h0 hk, hf]
    have hl : (A ++ (frameB b).data.toList).length = A.length + 8 + b.size := by rw [List.length_append, frameB_len]; omega
    have ih := frames_of x T ht Bs (A ++ (frameB b).data.toList) (fun c hc => hs c (List.mem_cons_of_mem _ hc)) (by rw [hx]; simp only [List.append_assoc])
    rw [hl] at ih
    rw [ih, flatF_cons, List.length_append, frameB_len]
    simp only [List.map_cons, Prod.mk.injEq, true_and]
    omega
theorem frames_is (x : ByteArray) (Bs : List ByteArray) (T : List UInt8) (ht : TornF T) (hs : ∀ b ∈ Bs, b.size ≤ 65536) (hx : x.data.toList = flatF Bs ++ T) : frames x = (Bs.map (fun b => b.data.toList), (flatF Bs).length) ∧ (found x ((flatF Bs).length : Nat)).code = 61 := by
  refine ⟨?_, found_end x (flatF Bs) T hx ht⟩
  have := frames_of x T ht Bs [] hs (by rw [hx]; rfl)
  rw [List.length_nil, Nat.zero_add] at this
  exact this

set_option maxRecDepth 100000 in
set_option maxHeartbeats 1000000 in
theorem jframes_any (d : Nat) (s : Dk.Dsk) (k : ByteArray) (w : World) (F : Nat → Prop) (h : DiskI d s w F) (hk : k.size ≤ maxLen) (Bs : List ByteArray) (T : List UInt8) (ht : TornF T) (hs : ∀ b ∈ Bs, b.size ≤ 65536) (hD : Dk.readV s k.data.toList = flatF Bs ++ T) (hsz : (flatF Bs ++ T).length ≤ 1000000) :
    Calls Tryz.prog 99 #[.pointer (some ⟨d, 0, none⟩), .string k] w fun e w' => ∃ v, e = .returned v ∧ Hid (w'.ownsRow w.heap.size 9 1 v Bs.length (Bs.map Value.string)) ∧ Hid (Below w.heap.size w w') := by
  have hR : Hid (Calls Tryz.prog 22 #[.pointer (some ⟨d, 0, none⟩), .string k] w fun e w' => e = .returned (.tuple #[.string ⟨(flatF Bs ++ T).toArray⟩, .int .i64 (Dk.findE s k.data.toList)]) ∧ w = w') := by
    have := dread_i k h hk
    rw [hD] at this
    exact this.mono fun _ _ h => ⟨h.1, h.2.symm⟩
  obtain ⟨x, hx⟩ : ∃ x : ByteArray, (⟨(flatF Bs ++ T).toArray⟩ : ByteArray) = x := ⟨_, rfl⟩
  have hxl : x.data.toList = flatF Bs ++ T := by rw [← hx]
  have hxs : x.size ≤ 1000000 := by
    have : x.data.toList.length = x.size := rfl
    rw [← this, hxl]
    exact hsz
  obtain ⟨f1, f2⟩ := frames_is x Bs T ht hs hxl
  have hF : Hid (∀ u, Calls Tryz.prog 120 #[.string x] u fun e w' => ∃ v, e = .returned (.tuple #[v, .int .i64 ((flatF Bs).length : Int)]) ∧ Hid (w'.ownsRow u.heap.size 9 1 v Bs.length (Bs.map Value.string)) ∧ Hid (Below u.heap.size u w')) := fun u => by
    have := fFrames_any x u (by omega)
    rw [f1] at this
    refine this.mono fun e w' ⟨v, e1, e2, e3⟩ => ⟨v, e1, ?_, e3⟩
    have em : (Bs.map fun b => b.data.toList).map Go.Proofs.encStr = Bs.map Value.string := by
      rw [List.map_map]
      exact List.map_congr_left fun b _ => enc_self b
    rw [em, List.length_map] at e2
    exact e2
  have hU : Hid (∀ u, Calls Tryz.prog 121 #[.string x, .int .i64 ((flatF Bs).length : Int)] u fun e w' => ∃ a b c, e = .returned (.tuple #[.string a, .int .i64 b, .agg #[.int .i64 c, .int .i64 61]]) ∧ Hid (Below u.heap.size u w')) := fun u => by
    refine (fUnframe_any x _ u (by omega)).mono fun e w' ⟨e1, e2⟩ => ⟨(found x ((flatF Bs).length : Nat)).body, (found x ((flatF Bs).length : Nat)).stop, (found x ((flatF Bs).length : Nat)).place, ?_, e2⟩
    rw [e1]
    unfold Found.en
    rw [f2]
  have HRf : Hid (∀ u, Calls Tryz.prog 55 #[.bool false, .int .i64 190] u fun r w' => r = .returned (.tuple #[]) ∧ u = w') := fun u => (refuse_no 190 u).mono fun _ _ h => ⟨h.1, h.2.symm⟩
  obtain ⟨q, hq⟩ : ∃ q, (flatF Bs).length = q := ⟨_, rfl⟩
  rw [hx] at hR
  rw [hq] at hF hU
  clear hx hxl hxs f1 f2 hD h hq
  go_enter Tryz.func99, Tryz.ntmps99
  go_wp2_with (first
    | (go_at_call 22; (with_reducible refine hR.out.mono ?_); rintro e w1 ⟨rfl, rfl⟩)
    | (go_at_call 120; (with_reducible refine (hF.out _).mono ?_); rintro e w2 ⟨v, rfl, HO, HB⟩)
    | (go_at_call 121; (with_reducible refine (hU.out _).mono ?_); rintro e w3 ⟨a, b, c, rfl, HB3⟩)
    | (go_at_call 55; (with_reducible refine (HRf.out _).mono ?_); rintro e w4 ⟨rfl, rfl⟩))
  go_ret
  have hbA := (Below.refl w3.heap.size w3).alloc (Nat.le_refl _) (.cells #[.int .i64 c, .int .i64 61] 176)
  have hB3 := HB.out.trans (HB3.out.mono HB.out.size)
  exact ⟨v, rfl, row_kept (row_kept HO.out HB3.out) hbA, hB3.trans (hbA.mono hB3.size)⟩
end Go.Proofs.YtigegdelhpdlhaaGreatDoor

/- Layer 18: the durable epoch of a disk's marks. -/
namespace Go.Proofs.YtigegdelhpdlhaaGreatDoor
open Go.RowKit QP

def lastE (l : List Nat) : Nat := l.getLast?.getD 0
theorem lastE_next {l : List Nat} {j : Nat} (h : j < l.length) : lastE (l.take (j + 1)) = l[j] := by
  unfold lastE
  rw [List.take_succ_eq_append_getElem h, List.getLast?_append]
  rfl
/-- marks that rise -/
def RiseE (l : List Nat) : Prop := ∀ j, (h : j < l.length) → lastE (l.take j) < l[j]
abbrev markN (e : Nat) : ByteArray := ofN (lo e 8)
theorem markN_size (e : Nat) : (markN e).size = 8 := by rw [ofN_size, lo_length]
theorem row_shapeJ {w : World} {base n : Nat} {v : Value} {t : TypeId} {size : Nat} {xs : List Value} (h : w.ownsRow base t size v n xs) : ∃ A cap, v = .slice A n cap := by
  rcases h.2 with ⟨h1, hl⟩ | ⟨g, cap', cur, h1, hg, hh, r1, r2, r3, r4⟩
  · subst h1
    exact ⟨none, 0, by rw [hl]⟩
  · subst h1
    exact ⟨_, _, rfl⟩
theorem row_someJ {w : World} {base n : Nat} {A : Option Addr} {cap : Nat} {t : TypeId} {size : Nat} {xs : List Value} (h : w.ownsRow base t size (.slice A n cap) n xs) (hn : 0 < n) : ∃ g, A = some ⟨g, 0, none⟩ ∧ n ≤ cap ∧ cap ≤ 9223372036854775807 := by
  rcases h.2 with ⟨h1, hl⟩ | ⟨g, cap', cur, h1, hg, hh, r1, r2, r3, r4⟩
  · omega
  · cases h1
    unfold maxLen at r2
    exact ⟨g, rfl, r1, by omega⟩

set_option maxRecDepth 100000 in
set_option maxHeartbeats 1000000 in
theorem jdurable_any (d : Nat) (s : Dk.Dsk) (w : World) (F : Nat → Prop) (h : DiskI d s w F) (Es : List Nat) (T : List UInt8) (ht : TornF T) (hD : Dk.readV s epochB.data.toList = flatF (Es.map markN) ++ T) (hsz : (flatF (Es.map markN) ++ T).length ≤ 1000000) (hr : RiseE Es) (hm : ∀ e ∈ Es, e ≤ 2147483648) :
    Calls Tryz.prog 74 #[.pointer (some ⟨d, 0, none⟩)] w fun e w' => e = .returned (.int .i64 ((lastE Es : Nat) : Int)) ∧ Below w.heap.size w w' := by
  have HFr : Hid (Calls Tryz.prog 99 #[.pointer (some ⟨d, 0, none⟩), .string ⟨#[101, 112, 111, 99, 104]⟩] w fun e w' => ∃ A c, e = .returned (.slice A Es.length c) ∧ Hid (w'.ownsRow w.heap.size 9 1 (.slice A Es.length c) Es.length ((Es.map markN).map Value.string)) ∧ Hid (Below w.heap.size w w')) := by
    refine (jframes_any d s epochB w F h (by decide) (Es.map markN) T ht (fun b hb => ?_) hD hsz).mono fun e w' ⟨v, e1, e2, e3⟩ => ?_
    · obtain ⟨e, _, rfl⟩ := List.mem_map.1 hb
      rw [markN_size]; decide
    · rw [List.length_map] at e2
      obtain ⟨A, c, rfl⟩ := row_shapeJ e2.out
      exact ⟨A, c, e1, e2, e3⟩
  have HN : Hid (∀ (e : Nat) u, e ≤ 2147483648 → Calls Tryz.prog 100 #[.string (markN e)] u fun r w' => r = .returned (.int .u64 (e : Int)) ∧ Below u.heap.size u w') := fun e u he => numOf_any e u (by omega)
  have HRf : Hid (∀ u, Calls Tryz.prog 55 #[.bool false, .int .i64 190] u fun r w' => r = .returned (.tuple #[]) ∧ u = w') := fun u => (refuse_no 190 u).mono fun _ _ h => ⟨h.1, h.2.symm⟩
  have HRi : Hid (RiseE Es ∧ ∀ e ∈ Es, e ≤ 2147483648) := ⟨hr, hm⟩
  obtain ⟨n, hn⟩ : ∃ n, Es.length = n := ⟨_, rfl⟩
  have HLn : Hid (Es.length = n) := hn
  rw [hn] at HFr
  clear h ht hD hsz hr hm hn
  go_enter Tryz.func74, Tryz.ntmps74
  go_wp2_with (go_at_call 99; (with_reducible refine HFr.out.mono ?_); rintro e w1 ⟨A, c, rfl, HO, HB⟩)
  clear HFr
  go_loopw [3, 10] (fun v i wr => ∃ j l : Nat, j ≤ n ∧ i = .int .i64 j ∧ v = .int .u64 l ∧ Hid (l = lastE (Es.take j)) ∧ l ≤ 2147483648 ∧ Hid (Below w1.heap.size w1 wr)) (fun _ i _ => n - (intOf i).toNat)
  case atStart => exact ⟨0, 0, Nat.zero_le _, rfl, rfl, (rfl : _ = _), by decide, Below.refl _ _⟩
  case round =>
    obtain ⟨j, l, hj, rfl, rfl, HL, hl31, HBr⟩ := hrel
    by_cases hlt : j < n
    · obtain ⟨g, rfl, hc1, hc2⟩ := row_someJ HO.out (by omega)
      have hje : j < Es.length := by rw [HLn.out]; exact hlt
      obtain ⟨E, hE⟩ : ∃ E, Es[j] = E := ⟨_, rfl⟩
      have hx : ((Es.map markN).map Value.string)[j]? = some (.string (markN E)) := by
        rw [List.getElem?_map, List.getElem?_map, List.getElem?_eq_getElem hje, hE]
        rfl
      have q0 : wr.cell? ⟨g, j, none⟩ = some (.string (markN E)) := by
        have h1 := World.ownsRow.cells (row_kept HO.out HBr.out) (g := g) rfl j _ hx
        rw [Addr.add_lit, Nat.zero_add] at h1
        exact h1
      have hEm : E ≤ 2147483648 := by rw [← hE]; exact HRi.out.2 _ (List.getElem_mem hje)
      have hEr : l < E := by
        have := HRi.out.1 j hje
        rw [← HL.out, hE] at this
        exact this
      have HL2 : Hid (E = lastE (Es.take (j + 1))) := by
        show _ = _
        rw [lastE_next hje, hE]
      have HN1 : Hid (Calls Tryz.prog 100 #[.string (markN E)] wr fun r w' => r = .returned (.int .u64 (E : Int)) ∧ Below wr.heap.size wr w') := HN.out E wr hEm
      have hms : ((markN E).size : Int) = 8 := by rw [markN_size]; rfl
      obtain ⟨M, hM⟩ : ∃ M, markN E = M := ⟨_, rfl⟩
      rw [hM] at q0 HN1 hms
      have hlI : (j : Int) < (n : Int) := by omega
      have d1 : ¬ (E : Int) ≤ (l : Int) := by omega
      have d2 : decide ((2147483648 : Int) < (E : Int)) = false := decide_eq_false (by omega)
      have d3 : decide (2147483648 < E) = false := decide_eq_false (by omega)
      have d4 : decide (E ≤ l) = false := decide_eq_false (by omega)
      clear hx hM hE hEr
      go_wp2_with (first
        | (go_at_call 55; (with_reducible refine (HRf.out _).mono ?_); rintro e w4 ⟨rfl, rfl⟩)
        | (go_at_call 100; (with_reducible refine HN1.out.mono ?_); rintro e w3 ⟨rfl, hb3⟩; have HB3 : Hid (Below w1.heap.size w1 w3) := HBr.out.trans (hb3.mono HBr.out.size); clear hb3))
      exact ⟨⟨j + 1, E, by omega, by go_num, rfl, HL2, hEm, HB3⟩, by simp [intOf]; omega⟩
    · obtain rfl : j = n := by omega
      have hlI : ¬ (j : Int) < (j : Int) := by omega
      have wl : IntKind.i64.wrap (l : Int) = (l : Int) := jwrapI (by omega) (by omega)
      have HR : Hid (l = lastE Es) := by
        show _ = _
        rw [HL.out, List.take_of_length_le (by rw [HLn.out]; exact Nat.le_refl _)]
      clear HL
      go_wp2
      go_ret
      exact ⟨by rw [← HR.out]; rfl, HB.out.trans (HBr.out.mono HB.out.size)⟩
end Go.Proofs.YtigegdelhpdlhaaGreatDoor
