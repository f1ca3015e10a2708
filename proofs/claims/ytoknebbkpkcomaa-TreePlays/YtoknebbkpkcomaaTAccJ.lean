import Derived.Test.YtoknebbkpkcomaaTValid
import Derived.Test.YtoknebbkpkcomaaFlat
import Derived.Maps.AppendAt
import Derived.Deep.RegionLaw
import Derived.Shelf.RegionOpenPlain
/- What a scan gathers: keys, values, places seen, each in a box of its own with a row behind it. -/
namespace Go.Proofs.Ytoknebbkpkcomaa
open Go.RowKit

abbrev boxO (v : Value) (t : TypeId) : Obj := .cells #[v] t (0, 0)
def icells (L : List Int) : List Value := L.map fun x => Value.int .i64 x
theorem icells_length (L : List Int) : (icells L).length = L.length := by simp [icells]
theorem icells_append (A B : List Int) : icells (A ++ B) = icells A ++ icells B := by simp [icells]
theorem scells_append (A B : List ByteArray) : scells (A ++ B) = scells A ++ scells B := by simp [scells]
theorem enSn_len (s : Sn) : (enSn s).length = 3 := rfl
theorem enSn_one (s : Sn) : ∀ u ∈ enSn s, u.oneCell' = true := fun u hu => by
  simp [enSn] at hu
  rcases hu with rfl | rfl | rfl <;> rfl
def valsOf (ks : List Kv) : List Int := ks.map (·.2)

theorem own_shape {w : World} {base : Nat} {e : TypeId} {size n : Nat} {v : Value} {xs : List Value} (h : w.ownsRow base e size v n xs) : ∃ a m, v = .slice a n m := by
  rcases h.2 with ⟨h1, h2⟩ | ⟨g, cap, cur, h1, _⟩
  · exact ⟨none, 0, by rw [h1, h2]⟩
  · exact ⟨_, cap, h1⟩

structure AccG (w : World) (pm pk pv ps : Nat) (most : Int) (vk vv vs : Value) (told : List Kv) (seen : List Sn) : Prop where
  bm : w.heap[pm]? = some (boxO (.int .i64 most) 3)
  bk : w.heap[pk]? = some (boxO vk 26)
  bv : w.heap[pv]? = some (boxO vv 27)
  bs : w.heap[ps]? = some (boxO vs 34)
  rk : w.ownsRow 0 9 1 vk told.length (scells (keysOf told))
  rv : w.ownsRow 0 3 1 vv told.length (icells (valsOf told))
  rs : w.ownsRow 0 73 3 vs seen.length (flat enSn seen)
  ap : [pm, pk, pv, ps].Nodup
  ok : ∀ i, vk.ownBlock = some i → i ∉ [pm, pk, pv, ps] ∧ vv.ownBlock ≠ some i ∧ vs.ownBlock ≠ some i
  ov : ∀ i, vv.ownBlock = some i → i ∉ [pm, pk, pv, ps] ∧ vk.ownBlock ≠ some i ∧ vs.ownBlock ≠ some i
  os : ∀ i, vs.ownBlock = some i → i ∉ [pm, pk, pv, ps] ∧ vk.ownBlock ≠ some i ∧ vv.ownBlock ≠ some i

def accF (pm pk pv ps : Nat) (vk vv vs : Value) (i : Nat) : Prop := i ∈ [pm, pk, pv, ps] ∨ vk.ownBlock = some i ∨ vv.ownBlock = some i ∨ vs.ownBlock = some i
def AccI (pm pk pv ps : Nat) (most : Int) (s : List Kv × List Sn) (w : World) (F : Nat → Prop) : Prop := ∃ vk vv vs, AccG w pm pk pv ps most vk vv vs s.1 s.2 ∧ ∀ i, F i ↔ accF pm pk pv ps vk vv vs i

section
variable {w w' : World} {pm pk pv ps : Nat} {most : Int} {vk vv vs : Value} {told : List Kv} {seen : List Sn}

theorem ownsRow_lt {w : World} {e : TypeId} {size n : Nat} {v : Value} {xs : List Value} (h : w.ownsRow 0 e size v n xs) {i : Nat} (hi : v.ownBlock = some i) : i < w.heap.size := by
  obtain ⟨cur, h1, _⟩ := ownsRow_own h hi
  exact lt_of h1
theorem AccG.lt (h : AccG w pm pk pv ps most vk vv vs told seen) {i : Nat} (hi : accF pm pk pv ps vk vv vs i) : i < w.heap.size := by
  rcases hi with hi | hi | hi | hi
  · simp at hi
    rcases hi with rfl | rfl | rfl | rfl
    · exact lt_of h.bm
    · exact lt_of h.bk
    · exact lt_of h.bv
    · exact lt_of h.bs
  · exact ownsRow_lt h.rk hi
  · exact ownsRow_lt h.rv hi
  · exact ownsRow_lt h.rs hi
theorem AccG.kept (h : AccG w pm pk pv ps most vk vv vs told seen) (e : ∀ i, accF pm pk pv ps vk vv vs i → w'.heap[i]? = w.heap[i]?) : AccG w' pm pk pv ps most vk vv vs told seen :=
  ⟨(e pm (Or.inl (by simp))).trans h.bm, (e pk (Or.inl (by simp))).trans h.bk, (e pv (Or.inl (by simp))).trans h.bv, (e ps (Or.inl (by simp))).trans h.bs,
   ownsRow_block h.rk (fun i hi => e i (Or.inr (Or.inl hi))), ownsRow_block h.rv (fun i hi => e i (Or.inr (Or.inr (Or.inl hi)))), ownsRow_block h.rs (fun i hi => e i (Or.inr (Or.inr (Or.inr hi)))), h.ap, h.ok, h.ov, h.os⟩
theorem accI_res (pm pk pv ps : Nat) (most : Int) (s : List Kv × List Sn) : Res (AccI pm pk pv ps most s) := by
  refine ⟨fun {w F} h i hi => ?_, fun {w w' F S} h ht hS => ?_⟩
  · obtain ⟨vk, vv, vs, h1, h2⟩ := h
    exact h1.lt ((h2 i).1 hi)
  · obtain ⟨vk, vv, vs, h1, h2⟩ := h
    exact ⟨vk, vv, vs, h1.kept (fun i hi => ht.block i (h1.lt hi) (hS i ((h2 i).2 hi))), h2⟩

theorem infoSn : (Try.prog.info? 73).map (fun i => (i.zero, i.size, i.bytes)) = some (some (.agg #[.int .i64 0, .int .i64 0, .int .i64 0]), 3, 24) := by kernel_rfl
theorem infoStr : (Try.prog.info? 9).map (fun i => (i.zero, i.size, i.bytes)) = some (some (.string ⟨#[]⟩), 1, 16) := by kernel_rfl
theorem infoInt : (Try.prog.info? 3).map (fun i => (i.zero, i.size, i.bytes)) = some (some (.int .i64 0), 1, 8) := by kernel_rfl

/-- the run of append of one thing at the end of a row of one's own -/
theorem run_one {w : World} {t e ty : TypeId} {z : Value} {size bytes : Nat} (ht : Try.prog.underlying t = some (.slice e)) (hinfo : (Try.prog.info? e).map (fun i => (i.zero, i.size, i.bytes)) = some (some z, size, bytes)) (hzs : z.cells.size = size) (hsz : 0 < size) (hby : bytes ≤ 1024)
    {xs news : List Value} (hm : news.length = size) (hone : ∀ u ∈ news, u.oneCell' = true) {A : Option Addr} {n m : Nat} (hown : w.ownsRow 0 e size (.slice A n m) n xs) (hn : n ≤ 1000000)
    {p : Nat} (hp : ∀ j u, news[j]? = some u → w.cell? ⟨p, j, none⟩ = some u) :
    ∃ A' m' w', (Builtin.append_ #[t, t] ty #[.slice A n m, .slice (some ⟨p, 0, none⟩) 1 1]).run Try.prog w = .ok (.slice A' (n + 1) m') w' ∧ w'.ownsRow 0 e size (.slice A' (n + 1) m') (n + 1) (xs ++ news) ∧ Turn (fun i => (Value.slice A n m).ownBlock = some i) w w' ∧ (∀ i, (Value.slice A' (n + 1) m').ownBlock = some i → (Value.slice A n m).ownBlock = some i ∨ w.heap.size ≤ i) := by
  obtain ⟨i, hi, hz, h1, h2⟩ : ∃ i, Try.prog.info? e = some i ∧ i.zero = some z ∧ i.size = size ∧ i.bytes = bytes := by
    cases hq : Try.prog.info? e with
    | none => rw [hq] at hinfo; cases hinfo
    | some i =>
      rw [hq] at hinfo
      simp only [Option.map_some, Option.some.injEq, Prod.mk.injEq] at hinfo
      exact ⟨i, rfl, hinfo.1, hinfo.2.1, hinfo.2.2⟩
  have hb : (n + 1) * bytes ≤ 1000001 * 1024 := Nat.mul_le_mul (by omega) hby
  obtain ⟨v', w', hr, k1, k2, _, k4⟩ := run_append_own_at (P := Try.prog) w 0 t ty e i z size bytes ht hi hz h1 h2 hzs hsz _ n _ hown ⟨p, 0, none⟩ 1 1 news (by rw [hm, Nat.one_mul]) (fun j u hu => by rw [Addr.add_lit, Nat.zero_add]; exact hp j u hu) hone (by unfold maxLen; omega) (by omega) (Nat.zero_le _)
  obtain ⟨A', m', rfl⟩ := own_shape k1
  refine ⟨A', m', w', hr, k1, Turn.ofGrown k2 (fun k hk => hk), fun i hi => ?_⟩
  rcases k4 with k | k
  · exact Or.inl (k ▸ hi)
  · rw [k] at hi
    right
    injection hi with hi
    omega

theorem step_run {w : World} {ops : Array Oper} {o : Oper} {a : Act} {K : Act → World → Prop} {Q : Exit → Act → World → Prop} {E : Prop} (hgd : o.guard = none) (s x : Operand) (t : TypeId)
    (ho : o.op = .call { callee := .builtin .append, args := #[s, x], argTypes := #[t, t] }) {v u v' : Value} {w' : World} (hs : a.eval s = v) (hx : a.eval x = u) (hr : (Builtin.append_ #[t, t] o.type #[v, u]).run Try.prog w = .ok v' w') (h : K (a.put o.dst v') w') :
    if Region.wanted o (yielded ops a.tmps) = true then Oper.wp Try.prog o a w K Q else E := by
  have hw : Region.wanted o (yielded ops a.tmps) = true := by simp [Region.wanted, hgd]
  rw [if_pos hw]
  unfold Oper.wp
  simp [execOp, ho, resolve, invoke, builtin, hs, hx, hr, Result.andThen]
  exact h
end

end Go.Proofs.Ytoknebbkpkcomaa

/- What notes a leaf: one place seen more. -/
namespace Go.Proofs.Ytoknebbkpkcomaa
open Go.RowKit

theorem step_fn {w : World} {ops : Array Oper} {o : Oper} {a : Act} {K : Act → World → Prop} {Q : Exit → Act → World → Prop} {E : Prop} (hgd : o.guard = none) (f : FuncId) (x : Operand) (T : Array TypeId)
    (ho : o.op = .call { callee := .value (.func f), args := #[x], argTypes := T }) (eg : ∀ args w, (callFunc f args).run Try.prog w = .ok (.enter f args) w) {v : Value} (hx : a.eval x = v) {R : Ending → World → Prop} (hc : Calls Try.prog f #[v] w R)
    (h : ∀ e w', R e w' → ∃ u, e = .returned u ∧ K (a.put o.dst u) w') :
    if Region.wanted o (yielded ops a.tmps) = true then Oper.wp Try.prog o a w K Q else E := by
  have hw : Region.wanted o (yielded ops a.tmps) = true := by simp [Region.wanted, hgd]
  rw [if_pos hw]
  have he : (execOp a.eval o).run Try.prog w = .ok (.enter f #[v]) w := by
    simp [execOp, ho, resolve, Deferred.ofValue, invoke, go_sem, eg]
    rw [← hx]
    cases x <;> simp [Act.eval]
  unfold Oper.wp
  rw [he]
  refine hc.mono fun e w' hr => ?_
  obtain ⟨u, rfl, hK⟩ := h e w' hr
  exact hK

section
variable {w w' : World} {pm pk pv ps : Nat} {most : Int} {vk vv vs : Value} {told : List Kv} {seen : List Sn}

/-- one place seen more, by its parts -/
theorem AccG.note (h : AccG w pm pk pv ps most vk vv vs told seen) {u : World} (hb : Below w.heap.size w u) {s : Sn} {A' : Option Addr} {m' : Nat} {u' : World}
    (k1 : u'.ownsRow 0 73 3 (.slice A' (seen.length + 1) m') (seen.length + 1) (flat enSn seen ++ enSn s)) (k2 : Turn (fun i => vs.ownBlock = some i) u u') (k3 : ∀ i, (Value.slice A' (seen.length + 1) m').ownBlock = some i → vs.ownBlock = some i ∨ u.heap.size ≤ i) :
    Goes (AccI pm pk pv ps most (told, seen ++ [s])) w (u'.setCell ⟨ps, 0, none⟩ (.slice A' (seen.length + 1) m')) (accF pm pk pv ps vk vv vs) := by
  have hsz := hb.size
  have hap := h.ap
  simp only [List.nodup_cons, List.mem_cons, not_or, List.not_mem_nil, List.nodup_nil, and_true, not_false_eq_true] at hap
  have lt : ∀ i, accF pm pk pv ps vk vv vs i → i < w.heap.size := fun i hi => h.lt hi
  -- blocks that are not of the row of places
  have kp : ∀ i, i < w.heap.size → vs.ownBlock ≠ some i → i ≠ ps → (u'.setCell ⟨ps, 0, none⟩ (.slice A' (seen.length + 1) m')).heap[i]? = w.heap[i]? := fun i hi hne hps => by
    rw [Below.heap_setCell u' ⟨ps, 0, none⟩ _ i hps, k2.block i (by omega) hne, hb.block i hi]
  have nos : ∀ x, x ∈ [pm, pk, pv, ps] → vs.ownBlock ≠ some x := fun x hx e => (h.os x e).1 hx
  have e_ps : u'.heap[ps]? = some (boxO vs 34) := by
    rw [k2.block ps (by have := lt ps (Or.inl (by simp)); omega) (nos ps (by simp)), hb.block ps (lt ps (Or.inl (by simp)))]
    exact h.bs
  have newown : ∀ i, (Value.slice A' (seen.length + 1) m').ownBlock = some i → i ∉ [pm, pk, pv, ps] ∧ vk.ownBlock ≠ some i ∧ vv.ownBlock ≠ some i := fun i hi => by
    rcases k3 i hi with e | e
    · exact h.os i e
    · refine ⟨fun hm => ?_, fun e2 => ?_, fun e2 => ?_⟩
      · have := lt i (Or.inl hm); omega
      · have := lt i (Or.inr (Or.inl e2)); omega
      · have := lt i (Or.inr (Or.inr (Or.inl e2))); omega
  refine ⟨accF pm pk pv ps vk vv (.slice A' (seen.length + 1) m'), ⟨vk, vv, .slice A' (seen.length + 1) m', ⟨?_, ?_, ?_, ?_, ?_, ?_, ?_, h.ap, ?_, ?_, ?_⟩, fun _ => Iff.rfl⟩, ?_, fun i hi => ?_⟩
  · exact (kp pm (lt pm (Or.inl (by simp))) (nos pm (by simp)) (by omega)).trans h.bm
  · exact (kp pk (lt pk (Or.inl (by simp))) (nos pk (by simp)) (by omega)).trans h.bk
  · exact (kp pv (lt pv (Or.inl (by simp))) (nos pv (by simp)) (by omega)).trans h.bv
  · rw [heap_setCell_same e_ps]; rfl
  · exact ownsRow_block h.rk (fun i hi => kp i (lt i (Or.inr (Or.inl hi))) (h.ok i hi).2.2 (fun e => (h.ok i hi).1 (by rw [e]; simp)))
  · exact ownsRow_block h.rv (fun i hi => kp i (lt i (Or.inr (Or.inr (Or.inl hi)))) (h.ov i hi).2.2 (fun e => (h.ov i hi).1 (by rw [e]; simp)))
  · show World.ownsRow _ 0 73 3 _ (seen ++ [s]).length (flat enSn (seen ++ [s]))
    rw [flat_append, List.length_append, show flat enSn [s] = enSn s by simp [flat]]
    exact ownsRow_block k1 (fun i hi => Below.heap_setCell u' ⟨ps, 0, none⟩ _ i (fun e => (newown i hi).1 (by rw [e]; simp)))
  · exact fun i hi => ⟨(h.ok i hi).1, (h.ok i hi).2.1, fun e => (newown i e).2.1 hi⟩
  · exact fun i hi => ⟨(h.ov i hi).1, (h.ov i hi).2.1, fun e => (newown i e).2.2 hi⟩
  · exact newown
  · exact ((Turn.ofBelow _ hb).trans (k2.mono fun i hi => Or.inr (Or.inr (Or.inr hi)))).trans (Turn.setCell _ ⟨ps, 0, none⟩ _ (Or.inl (by simp)))
  · rcases hi with hi | hi | hi | hi
    · exact Or.inl (Or.inl hi)
    · exact Or.inl (Or.inr (Or.inl hi))
    · exact Or.inl (Or.inr (Or.inr (Or.inl hi)))
    · rcases k3 i hi with e | e
      · exact Or.inl (Or.inr (Or.inr (Or.inr e)))
      · right; omega

set_option maxRecDepth 100000 in
set_option maxHeartbeats 1000000 in
theorem note_any {F : Nat → Prop} (h : AccI pm pk pv ps most (told, seen) w F) {t b m c : Nat} {ls : List Lf} {made keys : Int} (hG : TreeG w t b m c ls made keys) {l : Lf} (hl : l ∈ ls) (hn : seen.length ≤ 100000) :
    Calls Try.prog 30 #[.pointer (some ⟨l.q, 0, none⟩), .pointer (some ⟨ps, 0, none⟩)] w fun e w' => e = .returned (.tuple #[]) ∧ Hid (Goes (AccI pm pk pv ps most (told, seen ++ [sn l])) w w' F) := by
  obtain ⟨vk, vv, vs, hA, hF⟩ := h
  obtain ⟨⟨s0, s1, s2⟩, hs⟩ : ∃ s : Sn, sn l = s := ⟨_, rfl⟩
  have HS : Hid (∀ u, Below w.heap.size w u → Calls Try.prog 31 #[.pointer (some ⟨l.q, 0, none⟩)] u fun e w' => e = .returned (.agg #[.int .i64 s0, .int .i64 s1, .int .i64 s2]) ∧ Below u.heap.size u w') := fun u hb => by
    have := seen_any (hG.turn (Turn.ofBelow (fun _ => False) hb) (fun _ _ h => h)) hl
    rw [hs] at this
    exact this
  obtain ⟨A, mm, rfl⟩ := own_shape hA.rs
  have lps := hA.lt (i := ps) (Or.inl (by simp))
  have HB : Hid (∀ u, Below w.heap.size w u → u.cell? ⟨ps, 0, none⟩ = some (.slice A seen.length mm) ∧ u.frozen? ⟨ps, 0, none⟩ = false) := fun u hb => by
    have e := (hb.block ps lps).trans hA.bs
    exact ⟨by rw [cell_of e]; rfl, frozen_of e _⟩
  -- the append, wherever it comes
  have HP : Hid (∀ u, Below w.heap.size w u → ∃ A' m' u', (Builtin.append_ #[34, 34] 34 #[.slice A seen.length mm, .slice (some ⟨u.heap.size, 0, none⟩) 1 1]).run Try.prog (u.alloc (snO (s0, s1, s2))) = .ok (.slice A' (seen.length + 1) m') u' ∧ u'.cell? ⟨ps, 0, none⟩ = some (.slice A seen.length mm) ∧ u'.frozen? ⟨ps, 0, none⟩ = false ∧ Hid (Goes (AccI pm pk pv ps most (told, seen ++ [sn l])) w (u'.setCell ⟨ps, 0, none⟩ (.slice A' (seen.length + 1) m')) F)) := fun u hb => by
    have hb2 : Below w.heap.size w (u.alloc (snO (s0, s1, s2))) := hb.trans (((Below.refl _ _).alloc (Nat.le_refl _) _).mono hb.size)
    have hrow : (u.alloc (snO (s0, s1, s2))).ownsRow 0 73 3 (.slice A seen.length mm) seen.length (flat enSn seen) := ownsRow_block hA.rs (fun i hi => hb2.block i (ownsRow_lt hA.rs hi))
    have hnew := heap_new u (snO (s0, s1, s2))
    obtain ⟨A', m', u', r1, r2, r3, r4⟩ := run_one (ty := 34) Try.underlying34 infoSn rfl (by decide) (by decide) (news := enSn (s0, s1, s2)) rfl (enSn_one _) hrow (by omega) (p := u.heap.size) (fun j x hj => by
      rw [cell_of hnew]
      simpa [enSn] using hj)
    have hps : u'.heap[ps]? = some (boxO (.slice A seen.length mm) 34) := by
      rw [r3.block ps (by have := hb2.size; omega) (fun e => (hA.os ps e).1 (by simp)), hb2.block ps lps]
      exact hA.bs
    refine ⟨A', m', u', r1, by rw [cell_of hps]; rfl, frozen_of hps _, ?_⟩
    have := hA.note hb2 (s := (s0, s1, s2)) r2 r3 r4
    rw [hs]
    obtain ⟨F', g1, g2, g3⟩ := this
    exact ⟨F', g1, g2.mono (fun i hi => (hF i).2 hi), fun i hi => (g3 i hi).imp_left (fun h => (hF i).2 h)⟩
  obtain ⟨N, hN⟩ : ∃ N, seen.length = N := ⟨_, rfl⟩
  obtain ⟨lq, hlq⟩ : ∃ lq, l.q = lq := ⟨_, rfl⟩
  rw [hN] at HB HP
  rw [hlq] at HS ⊢
  have eg : ∀ args w, (callFunc 31 args).run Try.prog w = .ok (.enter 31 args) w := enters_of Try.func31 (by kernel_rfl) rfl
  obtain ⟨q0, q1⟩ := HB.out w (Below.refl _ _)
  clear hG hl hA hF hs hn hN hlq
  go_enter Try.func30, Try.ntmps30
  go_wp2_with fail
  go_region_law (first
    | (refine step_fn (by rfl) 31 _ _ (by rfl) eg (by rfl) (HS.out _ (below_drewN w 1)) ?_; rintro e w1 ⟨rfl, hb1⟩; refine ⟨_, rfl, ?_⟩; have HB1 : Hid (Below w.heap.size w w1) := (below_drewN w 1).trans hb1; obtain ⟨r0, r1⟩ := HB.out w1 HB1.out; have lps1 : ps < w1.heap.size := Nat.lt_of_lt_of_le lps HB1.out.size; obtain ⟨A', m', u', z1, z2, z3, z4⟩ := HP.out w1 HB1.out; clear hb1)
    | (refine step_run (by rfl) _ _ 34 (by rfl) (by rfl) (by rfl) z1 ?_))
  all_goals go_wp2
  all_goals go_returns
  all_goals exact ⟨rfl, z4⟩
end

end Go.Proofs.Ytoknebbkpkcomaa
