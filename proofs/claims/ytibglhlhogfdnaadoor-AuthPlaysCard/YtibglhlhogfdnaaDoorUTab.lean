/- Where a table of keys lies in memory: its struct and its map; what its map's calls do. -/
import Derived.Test.YtibglhlhogfdnaaDoorUKit
import Derived.Test.YtibglhlhogfdnaaDoorUList
import Derived.Maps.OwnSet
import Derived.StringKeys
namespace Go.Proofs.YtibglhlhogfdnaaDoor
open Go.RowKit Go.Maps QP AP

/-- how an element of the map reads: as the value that it is -/
def heldR : Value → Option (DataW Value × List MemPlace) := fun v => some (.held v, [])
abbrev cl (k : ByteArray) : Value := .agg #[.string k]
def tokU (k : ByteArray) : DataW Value := .held (cl k)
theorem keyedU : Keyed Tryd.prog 9 := string_keyed Tryd.underlying9
abbrev kb (s : ByteArray) : List UInt8 := s.data.toList
theorem kb_inj {a b : ByteArray} (h : kb a = kb b) : a = b := by cases a; cases b; simpa using h
theorem keyOfU {k : ByteArray} (hk : k.size ≤ maxLen) : keyOf Tryd.prog 9 (.string k) = some (.string (kb k)) := WideMaps.keyOf_string_mk Tryd.underlying9 hk
theorem zeroC (w : World) : (zeroValue 60).run Tryd.prog w = .ok (cl ⟨#[]⟩) w := by kernel_rfl

/-! ### a table as a list by names -/
def gK (K : List Kv) : List (List UInt8 × ByteArray) := K.map fun p => (kb p.1, p.2)
theorem gK_length (K : List Kv) : (gK K).length = K.length := by unfold gK; rw [List.length_map]
theorem bb_bl (a b : ByteArray) : bytesBefore (kb a) (kb b) = bl a b := by
  unfold bl
  rw [Dk.before_less, Go.ByteArray.toList_eq, Go.ByteArray.toList_eq]
theorem beq_kb (a b : ByteArray) : (kb a == kb b) = decide (a = b) := by
  by_cases h : a = b
  · subst h; simp
  · rw [decide_eq_false h, beq_eq_false_iff_ne]; exact fun e => h (kb_inj e)
theorem gK_get (n : ByteArray) : ∀ K : List Kv, Dk.getL (kb n) (gK K) = getK n K
  | [] => rfl
  | p :: r => by
    have ih := gK_get n r
    unfold gK at ih ⊢
    rw [List.map_cons]
    unfold Dk.getL getK
    rw [ih, beq_kb]
    by_cases h : p.1 = n
    · rw [if_pos h, if_pos (by simpa using h)]
    · rw [if_neg h, if_neg (by simpa using h)]
theorem gK_del (n : ByteArray) (K : List Kv) : gK (delK n K) = Dk.delL (kb n) (gK K) := by
  unfold gK delK Dk.delL
  rw [List.filter_map]
  congr 1
  refine List.filter_congr fun p _ => ?_
  show decide (p.1 ≠ n) = !(kb p.1 == kb n)
  rw [beq_kb]
  simp
theorem gK_insL {n k : ByteArray} : ∀ {K : List Kv}, Rise K → (∀ p ∈ K, p.1 ≠ n) → gK (insK n k K) = Dk.insL (kb n, k) (gK K)
  | [], _, _ => rfl
  | p :: r, h, hn => by
    obtain ⟨h1, h2⟩ := List.pairwise_cons.1 h
    have hp := hn p (List.mem_cons_self ..)
    have ih := gK_insL (n := n) (k := k) h2 fun q hq => hn q (List.mem_cons_of_mem _ hq)
    unfold insK
    show _ = Dk.insL (kb n, k) ((kb p.1, p.2) :: gK r)
    unfold Dk.insL
    rw [bb_bl]
    rcases bl_tot p.1 n with hb | hb | hb
    · rw [if_pos hb, if_neg (by rw [bl_asym hb]; decide)]
      show (kb p.1, p.2) :: gK (insK n k r) = _
      rw [ih]
    · exact absurd hb hp
    · rw [if_neg (by rw [bl_asym hb]; decide), if_neg hp, if_pos hb]
      rfl
theorem ins_del {n k : ByteArray} : ∀ {K : List Kv}, Rise K → insK n k K = insK n k (delK n K)
  | [], _ => rfl
  | p :: r, h => by
    obtain ⟨h1, h2⟩ := List.pairwise_cons.1 h
    have ih := ins_del (n := n) (k := k) h2
    by_cases hp : p.1 = n
    · have hr : ∀ q ∈ r, q.1 ≠ n := fun q hq e => by
        have := h1 q hq
        rw [hp, e, bl_self] at this
        cases this
      have hd : delK n (p :: r) = r := by
        unfold delK
        rw [List.filter_cons, if_neg (by simpa using hp)]
        exact List.filter_eq_self.2 fun q hq => by simpa using hr q hq
      rw [hd]
      unfold insK
      rw [if_neg (by rw [hp, bl_self]; decide), if_pos hp]
      cases r with
      | nil => rfl
      | cons q s =>
        have hq := h1 q (List.mem_cons_self ..)
        rw [hp] at hq
        show _ = (if bl q.1 n then _ else if q.1 = n then _ else _)
        rw [if_neg (by rw [bl_asym hq]; decide), if_neg (hr q (List.mem_cons_self ..))]
    · have hd : delK n (p :: r) = p :: delK n r := by
        unfold delK
        rw [List.filter_cons, if_pos (by simpa using hp)]
      rw [hd]
      unfold insK
      by_cases hb : bl p.1 n = true
      · rw [if_pos hb, if_pos hb, ih]
      · rw [if_neg hb, if_neg hb, if_neg hp, if_neg hp]
        have hn : bl n p.1 = true := by
          rcases bl_tot p.1 n with h | h | h
          · exact absurd h hb
          · exact absurd h hp
          · exact h
        have : delK n r = r := List.filter_eq_self.2 fun q hq => by
          have h3 := bl_tr hn (h1 q hq)
          simp only [decide_eq_true_eq]
          exact fun e => by rw [e, bl_self] at h3; cases h3
        rw [this]
theorem gK_put {n k : ByteArray} {K : List Kv} (h : Rise K) : gK (insK n k K) = Dk.putL (kb n) k (gK K) := by
  unfold Dk.putL
  rw [← gK_del, ins_del h]
  refine gK_insL h.del fun p hp => ?_
  unfold delK at hp
  simpa using (List.mem_filter.1 hp).2
theorem gK_keys (K : List Kv) : Dk.keysL (gK K) = (namesOf K).map kb := by
  unfold Dk.keysL gK namesOf
  rw [List.map_map, List.map_map]
  rfl
theorem rise_gK {K : List Kv} : Dk.Rise (gK K) ↔ Rise K := by
  unfold Dk.Rise gK Rise
  rw [List.pairwise_map]
  exact ⟨fun h => h.imp fun {a b} hab => by rw [← bb_bl]; exact hab, fun h => h.imp fun {a b} hab => by rw [bb_bl]; exact hab⟩
theorem length_insU {k v : ByteArray} {K : List Kv} (h : Rise K) (hn : getK k K = none) : (insK k v K).length = K.length + 1 := by
  have := congrArg List.length (gK_insL (n := k) (k := v) h (getK_none.1 hn))
  rw [gK_length, Dk.length_insL, gK_length] at this
  exact this
theorem length_insT {k v v0 : ByteArray} : ∀ {K : List Kv}, Rise K → getK k K = some v0 → (insK k v K).length = K.length := fun {K} h hs => by
  have h1 := congrArg List.length (ins_del (n := k) (k := v) h)
  obtain ⟨i, hi⟩ := List.getElem?_of_mem ((getK_some h).1 hs)
  rw [insK_there h hi, List.length_set]

/-! ### where it lies -/
structure KeyG (w : World) (g m : Nat) (K : List Kv) : Prop where
  top : w.heap[g]? = some (.cells #[.map (some m)] 54 (0, 0))
  map : w.ownsMap Tryd.prog 9 heldR m K.length (Dk.toD tokU (gK K))
  few : K.length ≤ 4096
  short : ∀ p ∈ K, p.1.size ≤ 32 ∧ p.2.size ≤ 64
/-- a table in block g -/
def KeyI (g : Nat) (K : List Kv) (w : World) (F : Nat → Prop) : Prop := ∃ m, KeyG w g m K ∧ ∀ i, F i ↔ i = g ∨ i = m

theorem ownsMap_block {H : Type} {P : Program} {k : TypeId} {R : Value → Option (DataW H × List MemPlace)} {w w' : World} {b n : Nat} {D : DataW H} (h : w.ownsMap P k R b n D) (e : w'.heap[b]? = w.heap[b]?) : w'.ownsMap P k R b n D := by
  obtain ⟨es, clock, hb, r⟩ := h
  exact ⟨es, clock, e.trans hb, r⟩
theorem ownsMap_exact {H : Type} {P : Program} {k : TypeId} {R : Value → Option (DataW H × List MemPlace)} {w : World} {b n : Nat} {D : DataW H} (h : w.ownsMap P k R b n D) : w.ownsMap P k R b (Maps.size D) D := by
  obtain ⟨es, clock, hb, F, _, rfl⟩ := h
  exact ⟨es, clock, hb, F, by simp [Maps.size, length_sorted], rfl⟩
section
variable {w w' : World} {g m : Nat} {K : List Kv}
theorem KeyG.rise (h : KeyG w g m K) : Rise K := rise_gK.1 (Dk.rise_of_canon tokU (h.map.canon keyedU))
theorem KeyG.ne (h : KeyG w g m K) : m ≠ g := fun e => by
  obtain ⟨es, clock, hb, _⟩ := h.map
  rw [e, h.top] at hb
  simp at hb
theorem KeyG.kept (h : KeyG w g m K) (e : ∀ i, i = g ∨ i = m → w'.heap[i]? = w.heap[i]?) : KeyG w' g m K :=
  ⟨(e g (Or.inl rfl)).trans h.top, ownsMap_block h.map (e m (Or.inr rfl)), h.few, h.short⟩
theorem KeyG.lt (h : KeyG w g m K) {i : Nat} (hi : i = g ∨ i = m) : i < w.heap.size := by
  rcases hi with rfl | rfl
  · exact lt_of h.top
  · exact h.map.lt
theorem keyI_res (g : Nat) (K : List Kv) : Res (KeyI g K) := by
  refine ⟨fun {w F} h i hi => ?_, fun {w w' F S} h ht hS => ?_⟩
  · obtain ⟨m, h1, h2⟩ := h
    exact h1.lt ((h2 i).1 hi)
  · obtain ⟨m, h1, h2⟩ := h
    exact ⟨m, h1.kept fun i hi => ht.block i (h1.lt hi) (hS i ((h2 i).2 hi)), h2⟩
theorem turn_of_map (h : w.mapTurned w' m) : Turn (fun i => i = m) w w' := Turn.ofGrown h.grown (fun k hk => by cases hk; rfl)

theorem KeyG.look (h : KeyG w g m K) (k : ByteArray) (hk : k.size ≤ maxLen) :
    (Instr.lookup 52 (.map (some m)) (.string k) true).run Tryd.prog w = .ok (.tuple #[cl ((getK k K).getD ⟨#[]⟩), .bool (getK k K).isSome]) w := by
  obtain ⟨v, ps, hrun, hv⟩ := h.map.look_ok keyedU Tryd.underlying52 (zeroC w) (zd := .held (cl ⟨#[]⟩)) (zp := []) rfl (keyOfU hk)
  rw [Dk.toD_has, gK_get] at hrun
  rw [Dk.toD_at, gK_get] at hv
  unfold heldR at hv
  simp only [Option.some.injEq, Prod.mk.injEq] at hv
  cases hg : getK k K with
  | some x =>
    rw [hg] at hrun hv
    have : v = cl x := by have := hv.1; unfold tokU at this; simpa using this
    rw [this] at hrun
    exact hrun
  | none =>
    rw [hg] at hrun hv
    have : v = cl ⟨#[]⟩ := by simpa using hv.1
    rw [this] at hrun
    exact hrun
theorem KeyG.len (h : KeyG w g m K) (ty : TypeId) : (Builtin.len_ #[52] ty #[.map (some m)]).run Tryd.prog w = .ok (.int .i64 (K.length : Int)) w := by
  have := h.map.len Tryd.underlying52 ty
  rw [Dk.toD_size, gK_length] at this
  exact this
theorem KeyG.put (h : KeyG w g m K) (n k : ByteArray) (hn : n.size ≤ 32) (hk : k.size ≤ 64) (hl : getK n K = none → K.length < 4096) :
    ∃ w', (Instr.mapUpdate 52 (.map (some m)) (.string n) (cl k)).run Tryd.prog w = .ok () w' ∧ KeyG w' g m (insK n k K) ∧ Turn (fun i => i = m) w w' := by
  obtain ⟨w', hrun, k1, k2⟩ := h.map.store keyedU Tryd.underlying52 (by have := h.few; unfold maxLen; omega) (keyOfU (k := n) (by unfold maxLen; omega)) (val := cl k) (d := tokU k) (ps := []) rfl
  have tt := turn_of_map k2
  refine ⟨w', hrun, ⟨(tt.block g (lt_of h.top) (Ne.symm h.ne)).trans h.top, ?_, ?_, fun p hp => ?_⟩, tt⟩
  · have := ownsMap_exact k1
    rw [Dk.toD_put, Dk.toD_size, ← gK_put h.rise, gK_length] at this
    exact this
  · cases hg : getK n K with
    | none => rw [length_insU h.rise hg]; exact hl hg
    | some v => rw [length_insT h.rise hg]; exact h.few
  · rcases mem_insK hp with rfl | hp
    · exact ⟨hn, hk⟩
    · exact h.short p hp
theorem KeyG.del (h : KeyG w g m K) (k : ByteArray) (hk : k.size ≤ maxLen) (ty : TypeId) :
    ∃ w', (Builtin.delete_ #[52, 9] ty #[.map (some m), .string k]).run Tryd.prog w = .ok (.tuple #[]) w' ∧ KeyG w' g m (delK k K) ∧ Turn (fun i => i = m) w w' := by
  obtain ⟨w', hrun, k1, k2⟩ := h.map.drop keyedU Tryd.underlying52 (keyOfU hk) ty
  have tt := turn_of_map k2
  refine ⟨w', hrun, ⟨(tt.block g (lt_of h.top) (Ne.symm h.ne)).trans h.top, ?_, Nat.le_trans (List.length_filter_le _ _) h.few, fun p hp => h.short p (List.mem_filter.1 hp).1⟩, tt⟩
  have := ownsMap_exact k1
  rw [Dk.toD_del, Dk.toD_size, ← gK_del, gK_length] at this
  exact this
end

set_option maxHeartbeats 400000 in
theorem new_auth (w : World) : Calls Tryd.prog 7 #[] w fun e w' => ∃ g F, e = .returned (.pointer (some ⟨g, 0, none⟩)) ∧ KeyI g [] w' F ∧ (∀ i, F i → w.heap.size ≤ i) ∧ Below w.heap.size w w' := by
  have hmm := @run_makeMap Tryd.prog
  go_enter Tryd.func7, Tryd.ntmps7
  go_wp2
  go_ret
  have b1 : Below w.heap.size w (w.alloc (.map #[] 0)) := (Below.refl _ _).alloc (Nat.le_refl _) _
  refine ⟨_, fun i => i = w.heap.size + 1 ∨ i = w.heap.size, rfl, ⟨w.heap.size, ⟨?_, ?_, by decide, (fun _ h => by cases h)⟩, fun i => by simp⟩, fun i hi => ?_, b1.alloc (by simp) _⟩
  · have := heap_new (w.alloc (.map #[] 0)) (.cells #[.map (some w.heap.size)] 54)
    simpa using this
  · have h1 : (w.alloc (.map #[] 0)).ownsMap Tryd.prog 9 heldR w.heap.size 0 (.map []) := World.ownsMap_made w _ _ _
    exact ownsMap_block h1 (Below.heap_alloc _ _ _ (by simp))
  · rcases hi with rfl | rfl
    · omega
    · omega
end Go.Proofs.YtibglhlhogfdnaaDoor
