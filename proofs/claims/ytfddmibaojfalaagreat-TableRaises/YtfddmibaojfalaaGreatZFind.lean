/- The program's Find. -/
import Derived.Test.YtfddmibaojfalaaGreatZCreate
namespace Go.Proofs.YtfddmibaojfalaaGreat
open Go.RowKit Go.Maps

set_option maxRecDepth 100000 in
set_option maxHeartbeats 2000000 in
theorem find_some (c : Nat) (L : Cat) (k : ByteArray) (T : Tab) (w : World) (F : Nat → Prop) (hk : k.size ≤ maxLen) (h : CatI c L w F) (hg : Dk.getL (kb k) L = some T) :
    Calls Tryz.prog 14 #[.pointer (some ⟨c, 0, none⟩), .string k] w fun e w' => ∃ ca cn cc ia n ic, e = .returned (.tuple #[.agg #[.string T.nm, .slice ca cn cc, .int .i64 T.key, .slice ia n ic], .int .i64 0]) ∧ Hid (∃ X, Below w.heap.size w w' ∧ TabO w' w.heap.size (.slice ca cn cc) (.slice ia n ic) X T) := by
  obtain ⟨m, G, hG, hL, hF⟩ := h
  have hcl := lt_of hG.top
  rw [hL, Dk.getL_mapL] at hg
  obtain ⟨g, hgg, hgT⟩ : ∃ g, Dk.getL (kb k) G = some g ∧ g.T = T := by
    cases hq : Dk.getL (kb k) G with
    | none => rw [hq] at hg; cases hg
    | some g => rw [hq] at hg; exact ⟨g, rfl, Option.some.inj hg⟩
  have HK : Hid (∀ u, Below w.heap.size w u → CatG u c m G) := fun u hu => hG.kept fun i hi => hu.block i (hG.lt hi)
  obtain ⟨ht, -, hmt⟩ := hG.tabs _ (Dk.getL_mem hgg)
  simp only at ht hmt
  have hz : (w.alloc tabZ).heap.size = w.heap.size + 1 := by simp
  have HCp : Hid (∀ u, Below w.heap.size w u → Calls Tryz.prog 22 #[tabVal g.cv g.iv g.T] u (CopyR g.T u)) := fun u hu => copyTable_any g.cv g.iv g.T u w hu ht.tabV hmt
  have hb0 : Below w.heap.size w (w.alloc tabZ) := (Below.refl _ w).alloc (Nat.le_refl _) _
  have hlk : (Instr.lookup 82 (.map (some m)) (.string k) true).run Tryz.prog (w.alloc tabZ) = .ok (.tuple #[g.val, .bool true]) (w.alloc tabZ) := by
    rcases (HK.out _ hb0).look k hk with ⟨g', e1, e2⟩ | ⟨e1, _⟩
    · rw [hgg] at e1; cases e1; exact e2
    · rw [hgg] at e1; cases e1
  have c0 : (w.alloc tabZ).cell? ⟨c, 0, none⟩ = some (.map (some m)) := by rw [cell_of (HK.out _ hb0).top]; rfl
  obtain ⟨⟨a1, n1, c1, hcv⟩, a2, n2, c2, hiv⟩ := ht.shape
  obtain ⟨nm, hnm⟩ : ∃ nm, T.nm = nm := ⟨_, rfl⟩
  obtain ⟨key, hkey⟩ : ∃ key, T.key = key := ⟨_, rfl⟩
  unfold tabVal at HCp
  unfold Ge.val tabVal at hlk
  rw [hgT, hcv, hiv, hnm, hkey] at hlk HCp
  rw [hnm, hkey]
  have HCq : Hid (∀ u, Below (w.alloc tabZ).heap.size (w.alloc tabZ) u → Calls Tryz.prog 22 #[.agg #[.string nm, .slice a1 n1 c1, .int .i64 key, .slice a2 n2 c2]] u fun e w' => ∃ ca cn cc ia n ic, e = .returned (.agg #[.string nm, .slice ca cn cc, .int .i64 key, .slice ia n ic]) ∧ Hid (∃ X, Below (w.alloc tabZ).heap.size (w.alloc tabZ) w' ∧ TabO w' (w.heap.size + 1) (.slice ca cn cc) (.slice ia n ic) X T)) := fun u hu => by
    have hu0 : Below w.heap.size w u := hb0.trans (hu.mono (by omega))
    refine (HCp.out u hu0).mono fun e w' ⟨cv', iv', X', e1, e2, e3⟩ => ?_
    obtain ⟨⟨a, n, c, hc1⟩, a', n', c', hc2⟩ := e2.shape
    subst hc1 hc2
    unfold tabVal at e1
    rw [hnm, hkey] at e1
    exact ⟨a, n, c, a', n', c', e1, X', hu.trans (e3.mono hu.size), e2.low (by have := hu.size; omega)⟩
  have HQ : Hid (∀ u, Below (w.alloc tabZ).heap.size (w.alloc tabZ) u → u.heap[w.heap.size]? = some tabZ ∧ w.heap.size < u.heap.size) := fun u hu => by
    have := (hu.block w.heap.size (by rw [hz]; omega)).trans (heap_new w _)
    exact ⟨this, lt_of this⟩
  have HC : Hid (∀ u : World, u.heap[w.heap.size]? = some tabZ → u.cell? ⟨w.heap.size, 0, none⟩ = some (.string ⟨#[]⟩) ∧ u.cell? ⟨w.heap.size, 1, none⟩ = some (.slice none 0 0) ∧ u.cell? ⟨w.heap.size, 2, none⟩ = some (.int .i64 0) ∧ u.cell? ⟨w.heap.size, 3, none⟩ = some (.slice none 0 0) ∧ u.frozen? ⟨w.heap.size, 0, none⟩ = false ∧ u.frozen? ⟨w.heap.size, 1, none⟩ = false ∧ u.frozen? ⟨w.heap.size, 2, none⟩ = false ∧ u.frozen? ⟨w.heap.size, 3, none⟩ = false) := fun u k =>
    ⟨by rw [cell_of k]; rfl, by rw [cell_of k]; rfl, by rw [cell_of k]; rfl, by rw [cell_of k]; rfl, frozen_of k 0, frozen_of k 1, frozen_of k 2, frozen_of k 3⟩
  have HBx : Hid (∀ o : Obj, Below (w.alloc tabZ).heap.size (w.alloc tabZ) ((w.alloc tabZ).alloc o)) := fun o => (Below.refl _ _).alloc (Nat.le_refl _) o
  clear hG ht hmt hL hF hg hgg hgT hcv hiv hnm hkey HCp HK hb0
  go_enter Tryz.func14, Tryz.ntmps14
  go_wp2_with (go_at_call 22; go_must (refine (HCq.out _ (HBx.out _)).mono ?_; rintro e w1 ⟨ca, cn, cc, ia, n, ic, rfl, K1⟩; obtain ⟨kq, kl⟩ := HQ.out w1 (by obtain ⟨X, h, _⟩ := K1.out; exact h); obtain ⟨d0, d1, d2, d3, f0, f1, f2, f3⟩ := HC.out w1 kq; have KQ : Hid (w1.heap[w.heap.size]? = some tabZ) := kq; clear kq))
  refine bodyPost_ret (by simp [results, Tryz.results14, go_sem, d0, d1, d2, d3]; rfl) rfl ?_
  obtain ⟨X, x1, x2⟩ := K1.out
  have hb0 : Below w.heap.size w w1 := ((Below.refl _ w).alloc (Nat.le_refl _) _).trans (x1.mono (by rw [hz]; omega))
  have ht := set4_turn w1 w.heap.size (.string nm) (.slice ca cn cc) (.int .i64 key) (.slice ia n ic)
  have fr : ∀ {T : TypeId} {m k : Nat} {v : Value} {xs : List Value}, w1.ownsRow (w.heap.size + 1) T m v k xs → World.ownsRow _ w.heap.size T m v k xs := fun hrow =>
    ownsRow_low (ownsRow_block hrow fun g hg => ht.block g (World.ownsRow.lt hrow g hg).2 (by have := (World.ownsRow.lt hrow g hg).1; omega)) (by omega)
  exact ⟨ca, cn, cc, ia, n, ic, rfl, X, hb0.trans ((ht.mono (S' := fun i => w.heap.size ≤ i) (fun i hi => by omega)).toBelow hb0.size), ⟨fr x2.co, fr x2.ix, x2.eq, fun x hx => fr (x2.nums x hx)⟩⟩

set_option maxRecDepth 100000 in
set_option maxHeartbeats 2000000 in
theorem find_none (c : Nat) (L : Cat) (k : ByteArray) (w : World) (F : Nat → Prop) (hk : k.size ≤ maxLen) (h : CatI c L w F) (hg : Dk.getL (kb k) L = none) :
    Calls Tryz.prog 14 #[.pointer (some ⟨c, 0, none⟩), .string k] w fun e w' => e = .returned (.tuple #[zeroTab, .int .i64 141]) ∧ Below w.heap.size w w' := by
  obtain ⟨m, G, hG, hL, hF⟩ := h
  have hcl := lt_of hG.top
  rw [hL, Dk.getL_mapL] at hg
  have hgg : Dk.getL (kb k) G = none := by
    cases hq : Dk.getL (kb k) G with
    | none => rfl
    | some g => rw [hq] at hg; cases hg
  have hb0 : Below w.heap.size w (w.alloc tabZ) := (Below.refl _ w).alloc (Nat.le_refl _) _
  have hG0 : CatG (w.alloc tabZ) c m G := hG.kept fun i hi => hb0.block i (hG.lt hi)
  have hlk : (Instr.lookup 82 (.map (some m)) (.string k) true).run Tryz.prog (w.alloc tabZ) = .ok (.tuple #[zeroTab, .bool false]) (w.alloc tabZ) := by
    rcases hG0.look k hk with ⟨g', e1, e2⟩ | ⟨_, e2⟩
    · rw [hgg] at e1; cases e1
    · exact e2
  have c0 : (w.alloc tabZ).cell? ⟨c, 0, none⟩ = some (.map (some m)) := by rw [cell_of hG0.top]; rfl
  clear hG hL hF hg hgg hG0 hb0
  go_enter Tryz.func14, Tryz.ntmps14
  go_wp2
  refine bodyPost_ret (by simp [results, Tryz.results14, go_sem]; rfl) rfl ?_
  refine ⟨rfl, ?_⟩
  go_grown

end Go.Proofs.YtfddmibaojfalaaGreat
