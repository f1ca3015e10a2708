/- The document's Decode. -/
import Derived.Test.YtnboanlhdllhnaaGreatZRc
import Derived.Test.YtnboanlhdllhnaaGreatZLastJ
import Derived.Test.YtnboanlhdllhnaaGreatZUmJ
import Derived.Test.YtnboanlhdllhnaaGreatZOrderPJ
import Derived.Test.YtnboanlhdllhnaaGreatZBackP
namespace Go.Proofs.YtnboanlhdllhnaaGreat
open Go.RowKit

abbrev flt3 : Obj := .cells #[.int .i64 0, .int .i64 3] 48
/-- within Decode: its reader, its catalogue, its faults -/
structure RS (w wr : World) (nb rb cb : Nat) (B : List UInt8) (s : Us) (S : Sl) (G : List Ge) : Prop where
  pos : nb = w.heap.size + 1 ∧ rb = w.heap.size + 2 ∧ cb = w.heap.size + 3
  rd : UrI rb B s wr
  flt : wr.heap[w.heap.size]? = some fltZ
  non : wr.heap[nb]? = some flt3
  cat : RcG wr cb S G
  base : Below w.heap.size w wr
  new : ∀ i, rcFoot cb S G i → w.heap.size + 3 ≤ i
section
variable {w wr u : World} {nb rb cb : Nat} {B : List UInt8} {s s' : Us} {S : Sl} {G : List Ge}
theorem RS.on (h : RS w wr nb rb cb B s S G) (hr : UrI rb B s' u) (ha : At1 rb wr u) : RS w u nb rb cb B s' S G := by
  obtain ⟨p1, p2, p3⟩ := h.pos
  exact ⟨h.pos, hr, (ha.block _ (lt_of h.flt) (by omega)).trans h.flt, (ha.block _ (lt_of h.non) (by omega)).trans h.non, h.cat.kept fun i hi => ha.block i (h.cat.lt hi) (by have := h.new i hi; omega), h.base.trans ((ha.mono (S' := fun i => w.heap.size ≤ i) (fun i hi => by omega)).toBelow h.base.size), h.new⟩
theorem RS.fresh (h : RS w wr nb rb cb B s S G) (hb : Below wr.heap.size wr u) : RS w u nb rb cb B s S G := h.on ((hb.block _ (lt_of h.rd)).trans h.rd) (Turn.ofBelow _ hb)
theorem RS.drew (h : RS w wr nb rb cb B s S G) : RS w wr.drew nb rb cb B s S G := h.fresh ⟨rfl, rfl, rfl, Nat.le_refl _, fun _ _ => rfl⟩
theorem RS.cells (h : RS w wr nb rb cb B s S G) : wr.cell? ⟨w.heap.size, 0, none⟩ = some (.int .i64 0) ∧ wr.cell? ⟨w.heap.size, 1, none⟩ = some (.int .i64 0) ∧ wr.frozen? ⟨w.heap.size, 0, none⟩ = false ∧ wr.frozen? ⟨w.heap.size, 1, none⟩ = false ∧ wr.cell? ⟨nb, 0, none⟩ = some (.int .i64 0) ∧ wr.cell? ⟨nb, 1, none⟩ = some (.int .i64 3) :=
  ⟨by rw [cell_of h.flt]; rfl, by rw [cell_of h.flt]; rfl, frozen_of h.flt 0, frozen_of h.flt 1, by rw [cell_of h.non]; rfl, by rw [cell_of h.non]; rfl⟩
theorem RS.fault (h : RS w wr nb rb cb B s S G) (a b : Value) : Below w.heap.size w ((wr.setCell ⟨w.heap.size, 0, none⟩ a).setCell ⟨w.heap.size, 1, none⟩ b) ∧ RcG ((wr.setCell ⟨w.heap.size, 0, none⟩ a).setCell ⟨w.heap.size, 1, none⟩ b) cb S G ∧ ((wr.setCell ⟨w.heap.size, 0, none⟩ a).setCell ⟨w.heap.size, 1, none⟩ b).heap[w.heap.size]? = some (.cells #[a, b] 48 (0, 0)) := by
  have ht : Turn (fun i => i = w.heap.size) wr ((wr.setCell ⟨w.heap.size, 0, none⟩ a).setCell ⟨w.heap.size, 1, none⟩ b) := (Turn.setCell (S := fun i => i = w.heap.size) wr ⟨w.heap.size, 0, none⟩ _ rfl).trans (Turn.setCell _ ⟨w.heap.size, 1, none⟩ _ rfl)
  exact ⟨h.base.trans ((ht.mono (S' := fun i => w.heap.size ≤ i) (fun i hi => by omega)).toBelow h.base.size), h.cat.kept fun i hi => ht.block i (h.cat.lt hi) (by have := h.new i hi; omega), heap_setCell_same (heap_setCell_same h.flt 0 _) 1 _⟩
theorem RS.add (h : RS w wr nb rb cb B s S G) {A' : Option Addr} {m' : Nat} {g : Ge} (ht : Turn (fun i => S.v.ownBlock = some i) wr u)
    (hrow : u.ownsRow 0 32 4 (.slice A' (S.n + 1) m') (S.n + 1) (flat enG (G ++ [g]))) (hw : ∀ i, (Value.slice A' (S.n + 1) m').ownBlock = some i → S.v.ownBlock = some i ∨ wr.heap.size ≤ i) (hg : TabO wr (w.heap.size + 3) g.cv g.iv g.X g.T) (hm : MayT g.T) (hl : S.n < 4096) :
    RS w (u.setCell ⟨cb, 0, none⟩ (.slice A' (S.n + 1) m')) nb rb cb B s ⟨A', S.n + 1, m'⟩ (G ++ [g]) := by
  obtain ⟨p1, p2, p3⟩ := h.pos
  obtain ⟨k1, k2, k3⟩ := h.cat.add ht hrow hw (hg.low (Nat.zero_le _)) hm hl
  have hS : ∀ i, (S.v.ownBlock = some i ∨ i = cb) → w.heap.size + 3 ≤ i := fun i hi => by
    rcases hi with e | e
    · exact h.new i (Or.inr (Or.inl e))
    · omega
  refine ⟨h.pos, (k3.block _ (lt_of h.rd) (fun e => by have := hS _ e; omega)).trans h.rd, (k3.block _ (lt_of h.flt) (fun e => by have := hS _ e; omega)).trans h.flt, (k3.block _ (lt_of h.non) (fun e => by have := hS _ e; omega)).trans h.non, k1, h.base.trans ((k3.mono (S' := fun i => w.heap.size ≤ i) (fun i hi => by have := hS i hi; omega)).toBelow h.base.size), fun i hi => ?_⟩
  rcases k2 i hi with k | k | k
  · exact h.new i k
  · exact (hg.lt (g := g) k).1
  · have := lt_of h.cat.top; omega
/-- its beginning -/
theorem RS.start (w : World) (B : List UInt8) : RS w ((((w.alloc fltZ).alloc flt3).alloc (.cells #[.string (bytesOf B), .int .i64 0, .bool false] 91)).alloc (.cells #[.slice none 0 0] 28)) (w.heap.size + 1) (w.heap.size + 2) (w.heap.size + 3) B (0, false) Sl.nil [] := by
  obtain ⟨w1, h1⟩ : ∃ w1, w.alloc fltZ = w1 := ⟨_, rfl⟩
  have s1 : w1.heap.size = w.heap.size + 1 := by rw [← h1]; simp
  have a1 : w1.heap[w.heap.size]? = some fltZ := by rw [← h1]; exact heap_new w _
  have b1 : Below w.heap.size w w1 := by rw [← h1]; exact (Below.refl _ w).alloc (Nat.le_refl _) _
  rw [h1]
  obtain ⟨w2, h2⟩ : ∃ w2, w1.alloc flt3 = w2 := ⟨_, rfl⟩
  have s2 : w2.heap.size = w.heap.size + 2 := by rw [← h2]; simp [s1]
  have a2 : w2.heap[w.heap.size + 1]? = some flt3 := by rw [← h2, ← s1]; exact heap_new w1 _
  have b2 : Below w1.heap.size w1 w2 := by rw [← h2]; exact (Below.refl _ w1).alloc (Nat.le_refl _) _
  rw [h2]
  obtain ⟨w3, h3⟩ : ∃ w3, w2.alloc (.cells #[.string (bytesOf B), .int .i64 0, .bool false] 91) = w3 := ⟨_, rfl⟩
  have s3 : w3.heap.size = w.heap.size + 3 := by rw [← h3]; simp [s2]
  have a3 : w3.heap[w.heap.size + 2]? = some (.cells #[.string (bytesOf B), .int .i64 0, .bool false] 91 (0, 0)) := by rw [← h3, ← s2]; exact heap_new w2 _
  have b3 : Below w2.heap.size w2 w3 := by rw [← h3]; exact (Below.refl _ w2).alloc (Nat.le_refl _) _
  rw [h3]
  obtain ⟨w4, h4⟩ : ∃ w4, w3.alloc (.cells #[.slice none 0 0] 28) = w4 := ⟨_, rfl⟩
  have a4 : w4.heap[w.heap.size + 3]? = some (.cells #[.slice none 0 0] 28 (0, 0)) := by rw [← h4, ← s3]; exact heap_new w3 _
  have b4 : Below w3.heap.size w3 w4 := by rw [← h4]; exact (Below.refl _ w3).alloc (Nat.le_refl _) _
  rw [h4]
  refine ⟨⟨rfl, rfl, rfl⟩, (b4.block _ (by omega)).trans a3, (b4.block _ (by omega)).trans ((b3.block _ (by omega)).trans ((b2.block _ (by omega)).trans a1)), (b4.block _ (by omega)).trans ((b3.block _ (by omega)).trans a2), ⟨a4, World.ownsRow_nil _ _ _ _, rfl, (fun _ h => by cases h), Nat.zero_le _⟩, ((b1.trans (b2.mono (by omega))).trans (b3.mono (by omega))).trans (b4.mono (by omega)), fun i hi => ?_⟩
  rcases hi with e | e | ⟨_, h, _⟩
  · omega
  · cases e
  · cases h
end

theorem below_drewed {B : Nat} {w u : World} (h : Below B w u) : Below B w u.drew := ⟨h.os, h.tape, h.output, h.size, h.block⟩
theorem box_cells {w : World} {b : Nat} {x0 x1 x2 x3 : Value} {t : TypeId} (h : w.heap[b]? = some (.cells #[x0, x1, x2, x3] t (0, 0))) : w.cell? ⟨b, 0, none⟩ = some x0 ∧ w.cell? ⟨b, 1, none⟩ = some x1 ∧ w.cell? ⟨b, 2, none⟩ = some x2 ∧ w.cell? ⟨b, 3, none⟩ = some x3 :=
  ⟨by rw [cell_of h]; rfl, by rw [cell_of h]; rfl, by rw [cell_of h]; rfl, by rw [cell_of h]; rfl⟩
/-- one thing more at the end of a row of a call's own, within a region that draws -/
theorem step_append_one1 {w : World} {ops : Array Oper} {o : Oper} {a : Act} {K : Act → World → Prop} {Q : Exit → Act → World → Prop} {E : Prop} (hgd : o.guard = none) (s x : Operand) (t : TypeId)
    (ho : o.op = .call { callee := .builtin .append, args := #[s, x], argTypes := #[t, t] })
    (e : TypeId) (z : Value) (size bytes : Nat) (ht : Tryz.prog.underlying t = some (.slice e)) (hinfo : (Tryz.prog.info? e).map (fun i => (i.zero, i.size, i.bytes)) = some (some z, size, bytes)) (hzs : z.cells.size = size) (hsz : 0 < size) (hby : bytes ≤ 1024)
    {α : Type} (en : α → List Value) (hm : ∀ y, (en y).length = size) (L : List α) (y : α) (hone : ∀ u ∈ en y, u.oneCell' = true)
    (A : Option Addr) (n m : Nat) (hs : a.eval s = .slice A n m) (hown : w.ownsRow 0 e size (.slice A n m) n (flat en L)) (hn : n ≤ 1000000)
    (p : Nat) (hx : a.eval x = .slice (some ⟨p, 0, none⟩) 1 1) (hp : ∀ j u, (en y)[j]? = some u → w.cell? ⟨p, j, none⟩ = some u)
    (h : ∀ A' m' w', w'.ownsRow 0 e size (.slice A' (n + 1) m') (n + 1) (flat en (L ++ [y])) → Turn (fun i => (Value.slice A n m).ownBlock = some i) w w' → (∀ i, (Value.slice A' (n + 1) m').ownBlock = some i → (Value.slice A n m).ownBlock = some i ∨ w.heap.size ≤ i) → K (a.put o.dst (.slice A' (n + 1) m')) w') :
    if Region.wanted o (yielded ops a.tmps) = true then Oper.wp Tryz.prog o a w K Q else E := by
  have hw : Region.wanted o (yielded ops a.tmps) = true := by simp [Region.wanted, hgd]
  rw [if_pos hw]
  obtain ⟨i, hi, hz, h1, h2⟩ := info_parts hinfo
  have hb : (n + 1) * bytes ≤ 1000001 * 1024 := Nat.mul_le_mul (by omega) hby
  obtain ⟨v', w', hr, k1, k2, _, k4⟩ := run_append_own_at (P := Tryz.prog) w 0 t o.type e i z size bytes ht hi hz h1 h2 hzs hsz _ n _ hown ⟨p, 0, none⟩ 1 1 (en y) (by rw [hm, Nat.one_mul]) (fun j u hu => by rw [Addr.add_lit, Nat.zero_add]; exact hp j u hu) hone (by unfold maxLen; omega) (by omega) (Nat.zero_le _)
  obtain ⟨A', m', rfl⟩ := own_shape k1
  unfold Oper.wp
  simp [execOp, ho, resolve, invoke, builtin, hs, hx, hr, Result.andThen]
  refine h A' m' w' ?_ (Turn.ofGrown k2 (fun k hk => hk)) (fun i hi => ?_)
  · rw [flat_append]
    simpa [flat] using k1
  · rcases k4 with k | k
    · exact Or.inl (k ▸ hi)
    · rw [k] at hi
      right
      injection hi with hi
      omega

theorem one_four (x : ByteArray) (A A' : Option Addr) (n c n' c' : Nat) (k : Int) : ∀ u ∈ [Value.string x, .slice A n c, .int .i64 k, .slice A' n' c'], u.oneCell' = true := fun u hu => by
  simp only [List.mem_cons, List.not_mem_nil, or_false] at hu
  rcases hu with rfl | rfl | rfl | rfl <;> rfl
theorem four_at (w : World) (x0 x1 x2 x3 : Value) : ∀ j u, [x0, x1, x2, x3][j]? = some u → (w.alloc (.cells #[x0, x1, x2, x3] 32 (0, 0))).cell? ⟨w.heap.size, j, none⟩ = some u := fun j u hu => by
  rw [cell_of (heap_new w _)]
  simpa using hu
/-- what the document's Decode answers -/
def RDecR (b : List UInt8) (w : World) (e : Ending) (w' : World) : Prop :=
  (262144 < b.length ∧ e = .returned (.tuple #[.pointer none, .agg #[.int .i64 0, .int .i64 2]]) ∧ Below w.heap.size w w') ∨
  (b.length ≤ 262144 ∧ (∀ L, ¬ Good b L) ∧ e = .returned (.tuple #[.pointer none, .agg #[.int .i64 0, .int .i64 3]]) ∧ Below w.heap.size w w') ∨
  (b.length ≤ 262144 ∧ ∃ G c, Good b (catOf G) ∧ e = .returned (.tuple #[.pointer (some ⟨c, 0, none⟩), .agg #[.int .i64 0, .int .i64 0]]) ∧ ∃ S, RcG w' c S G ∧ (∀ i, rcFoot c S G i → w.heap.size ≤ i) ∧ Below w.heap.size w w')

set_option linter.unusedSimpArgs false in
set_option maxRecDepth 100000 in
set_option maxHeartbeats 4000000 in
theorem rdecode_any (b0 : List UInt8) (w : World) : Calls Tryz.prog 24 #[.string (bytesOf b0)] w (RDecR b0 w) := by
  have hsz : (bytesOf b0).size = b0.length := bytesOf_size _
  by_cases hlong : 262144 < b0.length
  · obtain ⟨t, ht⟩ : ∃ t, bytesOf b0 = t := ⟨_, rfl⟩
    obtain ⟨n, hn⟩ : ∃ n, b0.length = n := ⟨_, rfl⟩
    have HL : Hid (262144 < b0.length) := hlong
    rw [ht, hn] at hsz
    rw [hn] at hlong
    have k1 : (262144 : Int) < (n : Int) := by omega
    rw [ht]
    clear ht hn
    go_enter Tryz.func24, Tryz.ntmps24
    go_wp2
    refine bodyPost_ret (by simp [results, Tryz.results24, go_sem]; rfl) rfl ?_
    exact Or.inl ⟨HL.out, rfl, by go_grown⟩
  · have HL : Hid (b0.length ≤ 262144) := by show _ ≤ _; omega
    have HSc : Hid (∀ u nb rb cb s S G, RS w u nb rb cb b0 s S G → s.1 ≤ b0.length → Calls Tryz.prog 39 #[.pointer (some ⟨rb, 0, none⟩)] u fun e w' => ∃ ca cn cc ia n ic, e = .returned (.agg #[.string (uTb b0 s).1.nm, .slice ca cn cc, .int .i64 (uTb b0 s).1.key, .slice ia n ic]) ∧ Hid (∃ X, RS w w' nb rb cb b0 (uTb b0 s).2 S G ∧ TabO w' u.heap.size (.slice ca cn cc) (.slice ia n ic) X (uTb b0 s).1)) := fun u nb rb cb s S G hu hs =>
      (uschema_any hu.rd (by have := HL.out; omega) hs).mono fun e w' ⟨ca, cn, cc, ia, n, ic, X, e1, e2⟩ => ⟨ca, cn, cc, ia, n, ic, e1, X, hu.on e2.out.1 e2.out.2.1, e2.out.2.2⟩
    have HS0 := RS.start w b0
    have hmayC : Hid (∀ (u : World) nb rb cb s S G (T : Tab) (X : List Iv) ca cn cc ia n ic base, RS w u nb rb cb b0 s S G → TabO u base (.slice ca cn cc) (.slice ia n ic) X T → OkTab T → Calls Tryz.prog 27 #[.agg #[.string T.nm, .slice ca cn cc, .int .i64 T.key, .slice ia n ic]] (u.alloc (tabBox T.nm ca cn cc T.key ia n ic)) fun e w' => e = .returned (.bool T.may) ∧ Hid (Below (u.alloc (tabBox T.nm ca cn cc T.key ia n ic)).heap.size (u.alloc (tabBox T.nm ca cn cc T.key ia n ic)) w')) := fun u nb rb cb s S G T X ca cn cc ia n ic base hu hT hok =>
      rmay_any _ _ T _ u ((Below.refl _ u).alloc (Nat.le_refl _) _) hT.tabV hok.rg
    obtain ⟨t, ht⟩ : ∃ t, bytesOf b0 = t := ⟨_, rfl⟩
    have HT : Hid (bytesOf b0 = t) := ht
    obtain ⟨n, hn⟩ : ∃ n, b0.length = n := ⟨_, rfl⟩
    have HN : Hid (b0.length = n) := hn
    rw [ht, hn] at hsz
    rw [hn] at hlong
    have k1 : ¬ (262144 : Int) < (n : Int) := by omega
    rw [ht]
    clear ht hn hlong
    go_enter Tryz.func24, Tryz.ntmps24
    go_wp2_with fail
    rw [show w.heap.size + 1 + 1 = w.heap.size + 2 from rfl, show w.heap.size + 2 + 1 = w.heap.size + 3 from rfl]
    rw [HT.out] at HS0
    obtain ⟨w4, hw4⟩ : ∃ w4, (((w.alloc fltZ).alloc flt3).alloc (.cells #[.string t, .int .i64 0, .bool false] 91)).alloc (.cells #[.slice none 0 0] 28) = w4 := ⟨_, rfl⟩
    rw [hw4] at HS0 ⊢
    obtain ⟨nb, hnb⟩ : ∃ nb, w.heap.size + 1 = nb := ⟨_, rfl⟩
    obtain ⟨rb, hrb⟩ : ∃ rb, w.heap.size + 2 = rb := ⟨_, rfl⟩
    obtain ⟨cb, hcb⟩ : ∃ cb, w.heap.size + 3 = cb := ⟨_, rfl⟩
    rw [hnb, hrb, hcb] at HS0 ⊢
    have HS1 : Hid (RS w w4 nb rb cb b0 (0, false) Sl.nil []) := HS0
    clear HS0 hw4 hnb hrb hcb
    go_loopg [7] n (fun gk v wr => ∃ (p : Nat) (lastL : List UInt8) (S : Sl) (G : List Ge), p ≤ n ∧ gk = n - p ∧ v = .string (bytesOf lastL) ∧ Hid (DecInv b0 (catOf G) lastL (b0.drop p) ∧ RS w wr nb rb cb b0 (p, false) S G))
    case atStart => exact ⟨0, [], Sl.nil, [], Nat.zero_le _, rfl, rfl, DecInv.start b0, HS1.out⟩
    case round =>
      clear HS1
      obtain ⟨p, lastL, ⟨SA, SN, SC⟩, G, hp, rfl, rfl, HQ⟩ := hrel
      obtain ⟨d0, d1, f0, f1, e0, e1⟩ := HQ.out.2.cells
      obtain ⟨c0, c1, c2, _, _⟩ := HQ.out.2.rd.cells
      dsimp only at c1 c2
      by_cases hlt : p < n
      · have hlI : (p : Int) < (n : Int) := by omega
        have hpb : p ≤ b0.length := by rw [HN.out]; exact hp
        have hq : b0.drop p ≠ [] := fun e => by
          have := congrArg List.length e
          rw [List.length_drop, HN.out] at this
          simp at this
          omega
        have HC := HSc.out wr nb rb cb (p, false) ⟨SA, SN, SC⟩ G HQ.out.2 hpb
        obtain ⟨la, hla⟩ : ∃ la, bytesOf lastL = la := ⟨_, rfl⟩
        have HLl : Hid (kb la = lastL) := by show _ = _; rw [← hla]; exact bytesOf_list _
        rw [hla]
        clear hla
        cases hr : rdTab (b0.drop p) with
        | none =>
          have hbad := (urd_tab b0).no p hpb hr
          have HNo : Hid (∀ L', ¬ Good b0 L') := HQ.out.1.stop1 hq hr
          obtain ⟨⟨T, p', z⟩, hu⟩ : ∃ x, uTb b0 (p, false) = x := ⟨_, rfl⟩
          rw [hu] at hbad HC
          dsimp only at hbad HC
          subst hbad
          obtain ⟨nm, hnm⟩ : ∃ nm, T.nm = nm := ⟨_, rfl⟩
          obtain ⟨key, hkey⟩ : ∃ key, T.key = key := ⟨_, rfl⟩
          rw [hnm, hkey] at HC
          have HC1 : Hid (Calls Tryz.prog 39 #[.pointer (some ⟨rb, 0, none⟩)] wr fun e w' => ∃ ca cn cc ia n ic, e = .returned (.agg #[.string nm, .slice ca cn cc, .int .i64 key, .slice ia n ic]) ∧ Hid (∃ X, RS w w' nb rb cb b0 (p', true) ⟨SA, SN, SC⟩ G ∧ TabO w' wr.heap.size (.slice ca cn cc) (.slice ia n ic) X T)) := HC
          clear HC hu hnm hkey hr hq HSc hmayC d0 d1 f0 f1 e0 e1
          go_wp2_with (go_at_call 39; go_must (refine HC1.out.mono ?_; rintro e w5 ⟨ca, cn, cc, ia, n5, ic, rfl, K5⟩; have R5 : Hid (RS w (w5.alloc (.cells #[.string nm, .slice ca cn cc, .int .i64 key, .slice ia n5 ic] 32)) nb rb cb b0 (p', true) ⟨SA, SN, SC⟩ G) := (by obtain ⟨X, k1, k2⟩ := K5.out; exact k1.fresh ((Below.refl _ w5).alloc (Nat.le_refl _) _)); obtain ⟨d0, d1, f0, f1, e0, e1⟩ := R5.out.cells; obtain ⟨_, _, r2, _, _⟩ := R5.out.rd.cells; dsimp only at r2))
          go_region
          all_goals go_wp2_with fail
          all_goals (
            obtain ⟨g1, g2, g3⟩ := R5.out.fault (.int .i64 0) (.int .i64 3)
            refine bodyPost_ret (by simp [results, Tryz.results24, go_sem, d0, d1]; rfl) rfl ?_
            exact Or.inr (Or.inl ⟨HL.out, HNo.out, rfl, below_drewed g1⟩))
        | some x =>
          obtain ⟨T, r⟩ := x
          obtain ⟨p', hu, hp', hdr⟩ := (urd_tab b0).yes p T r hpb hr
          have hok := (two_tab.back _ _ _ hr).1
          rw [hu] at HC
          dsimp only at HC
          obtain ⟨nm, hnm⟩ : ∃ nm, T.nm = nm := ⟨_, rfl⟩
          obtain ⟨key, hkey⟩ : ∃ key, T.key = key := ⟨_, rfl⟩
          rw [hnm, hkey] at HC
          have HC1 : Hid (Calls Tryz.prog 39 #[.pointer (some ⟨rb, 0, none⟩)] wr fun e w' => ∃ ca cn cc ia n ic, e = .returned (.agg #[.string nm, .slice ca cn cc, .int .i64 key, .slice ia n ic]) ∧ Hid (∃ X, RS w w' nb rb cb b0 (p', false) ⟨SA, SN, SC⟩ G ∧ TabO w' wr.heap.size (.slice ca cn cc) (.slice ia n ic) X T)) := HC
          have HMc : Hid (∀ (u : World) s S G (X : List Iv) ca cn cc ia n ic, RS w u nb rb cb b0 s S G → TabO u wr.heap.size (.slice ca cn cc) (.slice ia n ic) X T → Calls Tryz.prog 27 #[.agg #[.string nm, .slice ca cn cc, .int .i64 key, .slice ia n ic]] (u.alloc (.cells #[.string nm, .slice ca cn cc, .int .i64 key, .slice ia n ic] 32)) fun e w' => e = .returned (.bool T.may) ∧ Hid (Below (u.alloc (.cells #[.string nm, .slice ca cn cc, .int .i64 key, .slice ia n ic] 32)).heap.size (u.alloc (.cells #[.string nm, .slice ca cn cc, .int .i64 key, .slice ia n ic] 32)) w')) := fun u s S G X ca cn cc ia n ic h1 h2 => by
            have := hmayC.out u nb rb cb s S G T X ca cn cc ia n ic _ h1 h2 hok
            rw [hnm, hkey] at this
            exact this
          have HNm : Hid (T.nm = nm) := hnm
          have HKy : Hid (T.key = key) := hkey
          have HRt : Hid (rdTab (b0.drop p) = some (T, r)) := hr
          have HDr : Hid (b0.drop p' = r ∧ p' ≤ b0.length) := ⟨hdr, hp'⟩
          have HQn : Hid (b0.drop p ≠ []) := hq
          have HLn : Hid ((catOf G).length = SN) := by show _ = _; unfold catOf; rw [List.length_map]; exact HQ.out.2.cat.len
          have hfew : SN ≤ 4096 := by have := HQ.out.2.cat.few; have := HQ.out.2.cat.len; dsimp only at this; omega
          have hwrs : Hid (w.heap.size + 3 ≤ wr.heap.size) := by
            show _ ≤ _
            have := lt_of HQ.out.2.cat.top
            have := HQ.out.2.pos
            omega
          clear HC hu hnm hkey hr hq HSc hmayC d0 d1 f0 f1 e0 e1 hok hp' hdr
          cases hmay : T.may with
          | false =>
            have HNo : Hid (∀ L', ¬ Good b0 L') := HQ.out.1.stop2 HQn.out HRt.out (Or.inl hmay)
            rw [hmay] at HMc
            clear hmay
            go_wp2_with (first | (go_at_call 39; go_must (refine HC1.out.mono ?_; rintro e w5 ⟨ca, cn, cc, ia, n5, ic, rfl, K5⟩; have R5 : Hid (RS w (w5.alloc (.cells #[.string nm, .slice ca cn cc, .int .i64 key, .slice ia n5 ic] 32)) nb rb cb b0 (p', false) ⟨SA, SN, SC⟩ G) := (by obtain ⟨X, k1, k2⟩ := K5.out; exact k1.fresh ((Below.refl _ w5).alloc (Nat.le_refl _) _)); obtain ⟨_, _, r2, _, _⟩ := R5.out.rd.cells; dsimp only at r2; have HM1 : Hid (Calls Tryz.prog 27 #[.agg #[.string nm, .slice ca cn cc, .int .i64 key, .slice ia n5 ic]] (w5.alloc (.cells #[.string nm, .slice ca cn cc, .int .i64 key, .slice ia n5 ic] 32)) fun e w' => e = .returned (.bool false) ∧ Hid (Below (w5.alloc (.cells #[.string nm, .slice ca cn cc, .int .i64 key, .slice ia n5 ic] 32)).heap.size (w5.alloc (.cells #[.string nm, .slice ca cn cc, .int .i64 key, .slice ia n5 ic] 32)) w')) := (by obtain ⟨X, k1, k2⟩ := K5.out; exact HMc.out _ _ _ _ _ _ _ _ _ _ _ k1 k2))) | (go_at_call 27; go_must (refine HM1.out.mono ?_; rintro e w6 ⟨rfl, K6⟩; have R6 : Hid (RS w w6 nb rb cb b0 (p', false) ⟨SA, SN, SC⟩ G) := R5.out.fresh K6.out; obtain ⟨d0, d1, f0, f1, e0, e1⟩ := R6.out.cells; have T6 : Hid (w6.heap[w5.heap.size]? = some (.cells #[.string nm, .slice ca cn cc, .int .i64 key, .slice ia n5 ic] 32 (0, 0))) := (K6.out.block w5.heap.size (by simp)).trans (heap_new w5 _); obtain ⟨t0, t1, t2, t3⟩ := box_cells T6.out; have q0 := R6.out.cat.cell)))
            go_region
            all_goals go_wp2_with fail
            all_goals (
              obtain ⟨g1, g2, g3⟩ := R6.out.fault (.int .i64 0) (.int .i64 3)
              refine bodyPost_ret (by simp [results, Tryz.results24, go_sem, d0, d1]; rfl) rfl ?_
              exact Or.inr (Or.inl ⟨HL.out, HNo.out, rfl, below_drewed g1⟩))
          | true =>
            have HMay : Hid (T.may = true) := hmay
            rw [hmay] at HMc
            clear hmay
            by_cases hless : Op.bytesLess la.toList nm.toList = true
            · have b1 : Op.bytesLess nm.toList la.toList = false := bl_asym (a := la) (b := nm) hless
              have b2 : ¬ nm.toList = la.toList := fun e => by rw [e, bl_irrefl] at hless; cases hless
              have b3 : (nm.toList == la.toList) = false := beq_false_of_ne b2
              have HLs : Hid (bytesBefore lastL (kb T.nm) = true) := by
                show _ = _
                rw [← HLl.out, HNm.out, Dk.before_less]
                rw [Go.ByteArray.toList_eq, Go.ByteArray.toList_eq] at hless
                exact hless
              by_cases hfull : SN < 4096
              · have g1 : ¬ (4096 : Int) ≤ (SN : Int) := by omega
                have g2 : decide ((4096 : Int) ≤ (SN : Int)) = false := decide_eq_false g1
                obtain ⟨HY, hlen⟩ := HQ.out.1.next HQn.out HRt.out HMay.out HLs.out (by rw [HLn.out]; exact hfull)
                have HY' : Hid (DecInv b0 (catOf G ++ [(kb T.nm, T)]) (kb T.nm) r) := HY
                have HLen : Hid (r.length < (b0.drop p).length) := hlen
                clear HY hlen
                go_upto_region 12 with (first | (go_at_call 39; go_must (refine HC1.out.mono ?_; rintro e w5 ⟨ca, cn, cc, ia, n5, ic, rfl, K5⟩; have R5 : Hid (RS w (w5.alloc (.cells #[.string nm, .slice ca cn cc, .int .i64 key, .slice ia n5 ic] 32)) nb rb cb b0 (p', false) ⟨SA, SN, SC⟩ G) := (by obtain ⟨X, k1, k2⟩ := K5.out; exact k1.fresh ((Below.refl _ w5).alloc (Nat.le_refl _) _)); obtain ⟨_, _, r2, _, _⟩ := R5.out.rd.cells; dsimp only at r2; have HM1 : Hid (Calls Tryz.prog 27 #[.agg #[.string nm, .slice ca cn cc, .int .i64 key, .slice ia n5 ic]] (w5.alloc (.cells #[.string nm, .slice ca cn cc, .int .i64 key, .slice ia n5 ic] 32)) fun e w' => e = .returned (.bool true) ∧ Hid (Below (w5.alloc (.cells #[.string nm, .slice ca cn cc, .int .i64 key, .slice ia n5 ic] 32)).heap.size (w5.alloc (.cells #[.string nm, .slice ca cn cc, .int .i64 key, .slice ia n5 ic] 32)) w')) := (by obtain ⟨X, k1, k2⟩ := K5.out; exact HMc.out _ _ _ _ _ _ _ _ _ _ _ k1 k2))) | (go_at_call 27; go_must (refine HM1.out.mono ?_; rintro e w6 ⟨rfl, K6⟩; have R6 : Hid (RS w w6 nb rb cb b0 (p', false) ⟨SA, SN, SC⟩ G) := R5.out.fresh K6.out; obtain ⟨d0, d1, f0, f1, e0, e1⟩ := R6.out.cells; have T6 : Hid (w6.heap[w5.heap.size]? = some (.cells #[.string nm, .slice ca cn cc, .int .i64 key, .slice ia n5 ic] 32 (0, 0))) := (K6.out.block w5.heap.size (by simp)).trans (heap_new w5 _); obtain ⟨t0, t1, t2, t3⟩ := box_cells T6.out; have q0 := R6.out.cat.cell)))
                have HN5 : Hid (∀ i, (Value.slice SA SN SC).ownBlock = some i → i ≠ w5.heap.size) := fun i hi => by
                  obtain ⟨X, k1, k2⟩ := K5.out
                  have := (World.ownsRow.lt k1.cat.row i hi).2
                  omega
                obtain ⟨X, hTg⟩ : ∃ X, TabO w6 (w.heap.size + 3) (.slice ca cn cc) (.slice ia n5 ic) X T := by
                  obtain ⟨X, k1, k2⟩ := K5.out
                  have h1 : TabO w6 wr.heap.size (.slice ca cn cc) (.slice ia n5 ic) X T := TabO.block (g := ⟨T, .slice ca cn cc, .slice ia n5 ic, X⟩) k2 fun i hi => by
                    have hl := (TabO.lt (g := ⟨T, .slice ca cn cc, .slice ia n5 ic, X⟩) k2 hi).2
                    exact (K6.out.block i (by simp; omega)).trans (Below.heap_alloc w5 _ i hl)
                  exact ⟨X, h1.low hwrs.out⟩
                obtain ⟨g, hg⟩ : ∃ g : Ge, g = ⟨T, .slice ca cn cc, .slice ia n5 ic, X⟩ := ⟨_, rfl⟩
                have HG : Hid (enG g = [.string nm, .slice ca cn cc, .int .i64 key, .slice ia n5 ic] ∧ g.T = T ∧ TabO w6 (w.heap.size + 3) g.cv g.iv g.X g.T) := by
                  subst hg
                  exact ⟨by unfold enG; rw [HNm.out, HKy.out], rfl, hTg⟩
                obtain ⟨tb, htb⟩ : ∃ tb, w5.heap.size = tb := ⟨_, rfl⟩
                rw [htb] at t0 t1 t2 t3 T6 HN5 ⊢
                have H7 : Hid (∀ o : Obj, RS w (w6.drew.alloc o) nb rb cb b0 (p', false) ⟨SA, SN, SC⟩ G) := fun o => R6.out.drew.fresh ((Below.refl _ w6.drew).alloc (Nat.le_refl _) o)
                have HSt : Hid (∀ (o : Obj) v, Turn (fun i => (Value.slice SA SN SC).ownBlock = some i) (w6.drew.alloc o) v → (v.cell? ⟨cb, 0, none⟩ = some (.slice SA SN SC) ∧ v.cell? ⟨tb, 0, none⟩ = some (.string nm) ∧ v.cell? ⟨tb, 1, none⟩ = some (.slice ca cn cc) ∧ v.cell? ⟨tb, 2, none⟩ = some (.int .i64 key) ∧ v.cell? ⟨tb, 3, none⟩ = some (.slice ia n5 ic)) ∧ v.frozen? ⟨cb, 0, none⟩ = false) := fun o v hv => by
                  have hc := (H7.out o).cat
                  have k1 := (hv.block cb (lt_of hc.top) (row_not hc.row hc.top (by decide))).trans hc.top
                  have hl6 := lt_of T6.out
                  have k2 := (hv.block tb (by simp; omega) (fun e => HN5.out tb e rfl)).trans ((Below.heap_alloc w6.drew o tb hl6).trans T6.out)
                  obtain ⟨x0, x1, x2, x3⟩ := box_cells k2
                  exact ⟨⟨by rw [cell_of k1]; rfl, x0, x1, x2, x3⟩, frozen_of k1 0⟩
                have HG1 : Hid (∀ o : Obj, TabO (w6.drew.alloc o) (w.heap.size + 3) g.cv g.iv g.X g.T) := fun o => TabO.block HG.out.2.2 fun i hi => Below.heap_alloc w6.drew o i (TabO.lt HG.out.2.2 hi).2
                have HM4 : Hid (MayT g.T) := by show MayT _; rw [HG.out.2.1]; exact may_parts HMay.out
                clear htb hg hTg K5 K6 R5 HM1 r2
                refine wp_region_last (S := fun u => u.cell? ⟨cb, 0, none⟩ = some (.slice SA SN SC) ∧ u.cell? ⟨tb, 0, none⟩ = some (.string nm) ∧ u.cell? ⟨tb, 1, none⟩ = some (.slice ca cn cc) ∧ u.cell? ⟨tb, 2, none⟩ = some (.int .i64 key) ∧ u.cell? ⟨tb, 3, none⟩ = some (.slice ia n5 ic)) 10 (by kernel_rfl) ⟨cell_drew q0, cell_drew t0, cell_drew t1, cell_drew t2, cell_drew t3⟩ (fun hHeld => ?_)
                refine last_take (i := 0) (dst := 54) (v := ?v54) rfl rfl (by kernel_rfl) (by kernel_rfl) (by kernel_rfl) (by kernel_rfl) (fun _ _ _ h => h) (Or.inl ⟨by rfl, ?hy54⟩) (by assumption) ?rest54
                case hy54 => intro w hSw; (try dsimp only at hSw); go_simp; try with_reducible rfl
                try simp only [List.setIfInBounds_toArray, List.set_cons_zero, List.set_cons_succ]
                refine last_take (i := 1) (dst := 55) (v := ?v55) rfl rfl (by kernel_rfl) (by kernel_rfl) (by kernel_rfl) (by kernel_rfl) (fun _ _ _ h => h) (Or.inl ⟨by rfl, ?hy55⟩) (by assumption) ?rest55
                case hy55 => intro w hSw; (try dsimp only at hSw); go_simp; try with_reducible rfl
                try simp only [List.setIfInBounds_toArray, List.set_cons_zero, List.set_cons_succ]
                refine last_take (i := 2) (dst := 56) (v := ?v56) rfl rfl (by kernel_rfl) (by kernel_rfl) (by kernel_rfl) (by kernel_rfl) (fun _ _ _ h => h) (Or.inl ⟨by rfl, ?hy56⟩) (by assumption) ?rest56
                case hy56 => intro w hSw; (try dsimp only at hSw); go_simp; try with_reducible rfl
                try simp only [List.setIfInBounds_toArray, List.set_cons_zero, List.set_cons_succ]
                refine last_take (i := 3) (dst := 57) (v := ?v57) rfl rfl (by kernel_rfl) (by kernel_rfl) (by kernel_rfl) (by kernel_rfl) (fun _ _ _ h => h) (Or.inl ⟨by rfl, ?hy57⟩) (by assumption) ?rest57
                case hy57 => intro w hSw; (try dsimp only at hSw); go_simp; try with_reducible rfl
                try simp only [List.setIfInBounds_toArray, List.set_cons_zero, List.set_cons_succ]
                refine last_take (i := 4) (dst := 58) (v := ?v58) rfl rfl (by kernel_rfl) (by kernel_rfl) (by kernel_rfl) (by kernel_rfl) (fun _ _ _ h => h) (Or.inl ⟨by rfl, ?hy58⟩) (by assumption) ?rest58
                case hy58 => intro w hSw; (try dsimp only at hSw); go_simp; try with_reducible rfl
                try simp only [List.setIfInBounds_toArray, List.set_cons_zero, List.set_cons_succ]
                refine last_take (i := 5) (dst := 59) (v := ?v59) rfl rfl (by kernel_rfl) (by kernel_rfl) (by kernel_rfl) (by kernel_rfl) (fun _ _ _ h => h) (Or.inl ⟨by rfl, ?hy59⟩) (by assumption) ?rest59
                case hy59 => intro w hSw; (try dsimp only at hSw); go_simp; try with_reducible rfl
                try simp only [List.setIfInBounds_toArray, List.set_cons_zero, List.set_cons_succ]
                refine last_ready (rs := [6]) (by kernel_rfl) (by simp) ?_
                refine AllReadyL.cons rfl (fun K hK => ?_) AllReadyL.nil
                rw [if_pos (by rfl)]
                go_simp
                refine hK.out _ _ ⟨cell_new (cell_drew q0), cell_new (cell_drew t0), cell_new (cell_drew t1), cell_new (cell_drew t2), cell_new (cell_drew t3)⟩ (fun hS5 => ?_)
                clear hK
                try simp only [List.setIfInBounds_toArray, List.set_cons_zero, List.set_cons_succ]
                refine last_ready (rs := [7]) (by kernel_rfl) (by simp) ?_
                refine AllReadyL.cons rfl (fun K hK => ?_) AllReadyL.nil
                refine step_append_one1 (by rfl) _ _ 26 (by rfl) 32 (.agg #[.string ⟨#[]⟩, .slice none 0 0, .int .i64 0, .slice none 0 0]) 4 72 Tryz.underlying26 infoTab rfl (by decide) (by decide) enG (fun _ => rfl) G g (by rw [HG.out.1]; exact one_four _ _ _ _ _ _ _ _) SA SN SC (by rfl) (H7.out _).cat.row (by omega) w6.drew.heap.size (by rfl) (by rw [HG.out.1]; exact four_at w6.drew _ _ _ _) ?_
                intro A' m' w8 k1 k2 k3
                obtain ⟨x1, x2⟩ := HSt.out _ w8 k2
                have HF : Hid (RS w (w8.setCell ⟨cb, 0, none⟩ (.slice A' (SN + 1) m')) nb rb cb b0 (p', false) ⟨A', SN + 1, m'⟩ (G ++ [g])) := (H7.out _).add k2 k1 k3 (HG1.out _) HM4.out hfull
                clear k1 k2 k3
                refine hK.out _ _ x1 (fun hS6 => ?_)
                clear hK
                try simp only [Act.put, List.setIfInBounds_toArray, List.set_cons_zero, List.set_cons_succ]
                refine last_take (i := 8) (dst := 62) (v := ?v62) rfl rfl (by kernel_rfl) (by kernel_rfl) (by kernel_rfl) (by kernel_rfl) (fun _ _ _ h => h) (Or.inl ⟨by rfl, ?hy62⟩) (by assumption) ?rest62
                case hy62 => intro w hSw; (try dsimp only at hSw); go_simp; try with_reducible rfl
                try simp only [List.setIfInBounds_toArray, List.set_cons_zero, List.set_cons_succ]
                refine last_take (i := 9) (dst := 63) (v := ?v63) rfl rfl (by kernel_rfl) (by kernel_rfl) (by kernel_rfl) (by kernel_rfl) (fun _ _ _ h => h) (Or.inl ⟨by rfl, ?hy63⟩) (by assumption) ?rest63
                case hy63 => intro w hSw; (try dsimp only at hSw); go_simp; try with_reducible rfl
                try simp only [List.setIfInBounds_toArray, List.set_cons_zero, List.set_cons_succ]
                refine last_last (by kernel_rfl) rfl (by kernel_rfl) (fun K hK => ?_)
                rw [if_pos (by rfl)]
                obtain ⟨y0, y1, y2, y3, y4⟩ := x1
                go_simp
                refine hK.out _ _ ?_
                clear hK
                go_wp2_with fail
                go_roundg (n - p')
                case measure =>
                  have h1 := HLen.out
                  have h2 := HDr.out
                  rw [← h2.1, List.length_drop, List.length_drop, HN.out] at h1
                  omega
                case rel =>
                  refine ⟨p', kb T.nm, ⟨A', SN + 1, m'⟩, G ++ [g], by have := HDr.out.2; have := HN.out; omega, rfl, by rw [HNm.out, kb_bytes], ?_, HF.out⟩
                  rw [HDr.out.1]
                  have e : catOf (G ++ [g]) = catOf G ++ [(kb T.nm, T)] := by unfold catOf; rw [List.map_append]; simp [HG.out.2.1]
                  rw [e]
                  exact HY'.out
              · have g1 : (4096 : Int) ≤ (SN : Int) := by omega
                have g2 : decide ((4096 : Int) ≤ (SN : Int)) = true := decide_eq_true g1
                have HNo : Hid (∀ L', ¬ Good b0 L') := HQ.out.1.stop2 HQn.out HRt.out (Or.inr (Or.inr (by rw [HLn.out]; omega)))
                go_wp2_with (first | (go_at_call 39; go_must (refine HC1.out.mono ?_; rintro e w5 ⟨ca, cn, cc, ia, n5, ic, rfl, K5⟩; have R5 : Hid (RS w (w5.alloc (.cells #[.string nm, .slice ca cn cc, .int .i64 key, .slice ia n5 ic] 32)) nb rb cb b0 (p', false) ⟨SA, SN, SC⟩ G) := (by obtain ⟨X, k1, k2⟩ := K5.out; exact k1.fresh ((Below.refl _ w5).alloc (Nat.le_refl _) _)); obtain ⟨_, _, r2, _, _⟩ := R5.out.rd.cells; dsimp only at r2; have HM1 : Hid (Calls Tryz.prog 27 #[.agg #[.string nm, .slice ca cn cc, .int .i64 key, .slice ia n5 ic]] (w5.alloc (.cells #[.string nm, .slice ca cn cc, .int .i64 key, .slice ia n5 ic] 32)) fun e w' => e = .returned (.bool true) ∧ Hid (Below (w5.alloc (.cells #[.string nm, .slice ca cn cc, .int .i64 key, .slice ia n5 ic] 32)).heap.size (w5.alloc (.cells #[.string nm, .slice ca cn cc, .int .i64 key, .slice ia n5 ic] 32)) w')) := (by obtain ⟨X, k1, k2⟩ := K5.out; exact HMc.out _ _ _ _ _ _ _ _ _ _ _ k1 k2))) | (go_at_call 27; go_must (refine HM1.out.mono ?_; rintro e w6 ⟨rfl, K6⟩; have R6 : Hid (RS w w6 nb rb cb b0 (p', false) ⟨SA, SN, SC⟩ G) := R5.out.fresh K6.out; obtain ⟨d0, d1, f0, f1, e0, e1⟩ := R6.out.cells; have T6 : Hid (w6.heap[w5.heap.size]? = some (.cells #[.string nm, .slice ca cn cc, .int .i64 key, .slice ia n5 ic] 32 (0, 0))) := (K6.out.block w5.heap.size (by simp)).trans (heap_new w5 _); obtain ⟨t0, t1, t2, t3⟩ := box_cells T6.out; have q0 := R6.out.cat.cell)))
                go_region
                all_goals go_wp2_with fail
                all_goals (
                  obtain ⟨g1, g2, g3⟩ := R6.out.fault (.int .i64 0) (.int .i64 3)
                  refine bodyPost_ret (by simp [results, Tryz.results24, go_sem, d0, d1]; rfl) rfl ?_
                  exact Or.inr (Or.inl ⟨HL.out, HNo.out, rfl, below_drewed g1⟩))
            · have b0' : Op.bytesLess la.toList nm.toList = false := by cases h : Op.bytesLess la.toList nm.toList with | true => exact absurd h hless | false => rfl
              have HNo : Hid (∀ L', ¬ Good b0 L') := HQ.out.1.stop2 HQn.out HRt.out (Or.inr (Or.inl (by
                rw [← HLl.out, HNm.out, Dk.before_less]
                rw [Go.ByteArray.toList_eq, Go.ByteArray.toList_eq] at b0'
                exact b0')))
              have b1 : (Op.bytesLess nm.toList la.toList || (nm.toList == la.toList)) = true := by
                rcases bl_total la.toList nm.toList with h | h | h
                · exact absurd h hless
                · rw [h]; simp
                · rw [h]; rfl
              go_wp2_with (first | (go_at_call 39; go_must (refine HC1.out.mono ?_; rintro e w5 ⟨ca, cn, cc, ia, n5, ic, rfl, K5⟩; have R5 : Hid (RS w (w5.alloc (.cells #[.string nm, .slice ca cn cc, .int .i64 key, .slice ia n5 ic] 32)) nb rb cb b0 (p', false) ⟨SA, SN, SC⟩ G) := (by obtain ⟨X, k1, k2⟩ := K5.out; exact k1.fresh ((Below.refl _ w5).alloc (Nat.le_refl _) _)); obtain ⟨_, _, r2, _, _⟩ := R5.out.rd.cells; dsimp only at r2; have HM1 : Hid (Calls Tryz.prog 27 #[.agg #[.string nm, .slice ca cn cc, .int .i64 key, .slice ia n5 ic]] (w5.alloc (.cells #[.string nm, .slice ca cn cc, .int .i64 key, .slice ia n5 ic] 32)) fun e w' => e = .returned (.bool true) ∧ Hid (Below (w5.alloc (.cells #[.string nm, .slice ca cn cc, .int .i64 key, .slice ia n5 ic] 32)).heap.size (w5.alloc (.cells #[.string nm, .slice ca cn cc, .int .i64 key, .slice ia n5 ic] 32)) w')) := (by obtain ⟨X, k1, k2⟩ := K5.out; exact HMc.out _ _ _ _ _ _ _ _ _ _ _ k1 k2))) | (go_at_call 27; go_must (refine HM1.out.mono ?_; rintro e w6 ⟨rfl, K6⟩; have R6 : Hid (RS w w6 nb rb cb b0 (p', false) ⟨SA, SN, SC⟩ G) := R5.out.fresh K6.out; obtain ⟨d0, d1, f0, f1, e0, e1⟩ := R6.out.cells; have T6 : Hid (w6.heap[w5.heap.size]? = some (.cells #[.string nm, .slice ca cn cc, .int .i64 key, .slice ia n5 ic] 32 (0, 0))) := (K6.out.block w5.heap.size (by simp)).trans (heap_new w5 _); obtain ⟨t0, t1, t2, t3⟩ := box_cells T6.out; have q0 := R6.out.cat.cell)))
              go_region
              all_goals go_wp2_with fail
              all_goals (
                obtain ⟨g1, g2, g3⟩ := R6.out.fault (.int .i64 0) (.int .i64 3)
                refine bodyPost_ret (by simp [results, Tryz.results24, go_sem, d0, d1]; rfl) rfl ?_
                exact Or.inr (Or.inl ⟨HL.out, HNo.out, rfl, below_drewed g1⟩))
      · have hlI : ¬ (p : Int) < (n : Int) := by omega
        obtain ⟨la, hla⟩ : ∃ la, bytesOf lastL = la := ⟨_, rfl⟩
        rw [hla]
        clear hla
        go_wp2_with fail
        obtain ⟨g1, g2, g3⟩ := HQ.out.2.fault (.int .i64 0) (.int .i64 0)
        have j0 : ((wr.setCell ⟨w.heap.size, 0, none⟩ (.int .i64 0)).setCell ⟨w.heap.size, 1, none⟩ (.int .i64 0)).cell? ⟨w.heap.size, 0, none⟩ = some (.int .i64 0) := by rw [cell_of g3]; rfl
        have j1 : ((wr.setCell ⟨w.heap.size, 0, none⟩ (.int .i64 0)).setCell ⟨w.heap.size, 1, none⟩ (.int .i64 0)).cell? ⟨w.heap.size, 1, none⟩ = some (.int .i64 0) := by rw [cell_of g3]; rfl
        refine bodyPost_ret (by simp [results, Tryz.results24, go_sem, j0, j1]; rfl) rfl ?_
        have hd := HQ.out.1
        rw [List.drop_eq_nil_of_le (by rw [HN.out]; omega)] at hd
        exact Or.inr (Or.inr ⟨HL.out, G, cb, hd.done, rfl, _, g2, fun i hi => by have := HQ.out.2.new i hi; omega, g1⟩)

end Go.Proofs.YtnboanlhdllhnaaGreat
