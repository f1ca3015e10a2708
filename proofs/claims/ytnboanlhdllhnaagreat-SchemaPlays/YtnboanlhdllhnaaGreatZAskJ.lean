import Derived.Test.YtnboanlhdllhnaaGreatZWrJ
import Derived.Deep.RegionHeld3
/- mess: Ask of a request that creates a schema. -/
namespace Go.Proofs.YtnboanlhdllhnaaGreat
open Go.RowKit

theorem Stand.callF {I I' : World → (Nat → Prop) → Prop} {w wr : World} {L : List (Nat × Obj)} (h : Stand I w wr L) : ∃ F, I wr F ∧ (∀ i, F i → w.heap.size ≤ i) ∧ ∀ w', Goes I' wr w' F → Stand I' w w' L := by
  obtain ⟨F, h1, h2, h3, h4, h5⟩ := h
  refine ⟨F, h1, h2, fun w' hg => ?_⟩
  obtain ⟨F', g1, g2, g3⟩ := hg
  refine ⟨F', g1, fun i hi => ?_, fun p hp hF => ?_, fun p hp => ⟨(g2.block p.1 (lt_of (h4 p hp).1) (h3 p hp)).trans (h4 p hp).1, (h4 p hp).2⟩, h5.trans ((g2.mono h2).toBelow h5.size)⟩
  · rcases g3 i hi with h | h
    · exact h2 i h
    · exact Nat.le_trans h5.size h
  · rcases g3 _ hF with h | h
    · exact h3 p hp h
    · have := lt_of (h4 p hp).1; omega

set_option maxHeartbeats 400000 in
theorem inEpochs_zero (w : World) : Calls Tryz.prog 85 #[.int .i64 0] w fun e w' => e = .returned (.bool true) ∧ w' = w := by
  go_enter Tryz.func85, Tryz.ntmps85
  go_wp2
  go_ret
  exact ⟨rfl, rfl⟩
set_option maxHeartbeats 400000 in
theorem isRequest_five (w : World) : Calls Tryz.prog 65 #[.int .i64 5, .int .i64 0] w fun e w' => e = .returned (.bool true) ∧ w' = w := by
  go_enter Tryz.func65, Tryz.ntmps65
  go_wp2_with (go_at_call 85; go_must (refine (inEpochs_zero _).mono ?_; rintro e w' ⟨rfl, rfl⟩))
  go_ret
  exact ⟨rfl, rfl⟩

def eraseFn (k : Nat) : Value := .func (.func k) #[.agg #[]] #[]
def eraseFs : Value := .agg #[eraseFn 118, eraseFn 119, eraseFn 120, eraseFn 121, eraseFn 122]
def boundFn (k b : Nat) : Value := .func (.func k) #[.pointer (some ⟨b, 0, none⟩)] #[]
def writeFs (b : Nat) : Value := .agg #[boundFn 89 b, boundFn 90 b, boundFn 91 b, boundFn 92 b, boundFn 93 b]

theorem store_fn {P : Program} {w : World} {a : Addr} {m : Mode} (f : Fn) (x y : Array Value) : (store a (.func f x y) m).run P w = stored P w a (.func f x y) m := run_store P w a _ m rfl

set_option maxRecDepth 100000 in
set_option maxHeartbeats 1000000 in
theorem efields_any (w : World) : Calls Tryz.prog 86 #[.agg #[]] w fun e w' => e = .returned eraseFs ∧ Below w.heap.size w w' := by
  have hsf := @store_fn
  go_enter Tryz.func86, Tryz.ntmps86
  go_wp2
  refine bodyPost_ret (by simp [results, Tryz.results86, go_sem]; rfl) rfl ?_
  refine ⟨rfl, ?_⟩
  go_grown

set_option maxRecDepth 100000 in
set_option maxHeartbeats 1000000 in
theorem wfields_any (b : Nat) (w : World) : Calls Tryz.prog 68 #[.pointer (some ⟨b, 0, none⟩)] w fun e w' => e = .returned (writeFs b) ∧ Below w.heap.size w w' := by
  have hsf := @store_fn
  go_enter Tryz.func68, Tryz.ntmps68
  go_wp2
  refine bodyPost_ret (by simp [results, Tryz.results68, go_sem]; rfl) rfl ?_
  refine ⟨rfl, ?_⟩
  go_grown

set_option maxRecDepth 100000 in
set_option maxHeartbeats 1000000 in
theorem of_five (k0 k1 k2 k3 k4 : Nat) (a : Value) (w : World) :
    Calls Tryz.prog 69 #[.agg #[.func (.func k0) #[a] #[], .func (.func k1) #[a] #[], .func (.func k2) #[a] #[], .func (.func k3) #[a] #[], .func (.func k4) #[a] #[]], .int .i64 5] w fun e w' => ∃ g, e = .returned (.slice (some ⟨g, 0, none⟩) 1 1) ∧ w'.cell? ⟨g, 0, none⟩ = some (.func (.func k2) #[a] #[]) ∧ Hid (w.heap.size ≤ g ∧ g < w'.heap.size) ∧ Hid (Below w.heap.size w w') := by
  have hsf := @store_fn
  go_enter Tryz.func69, Tryz.ntmps69
  go_wp2
  go_ret
  refine ⟨_, rfl, ?_, ?_, ?_⟩
  · simp
  · show _ ∧ _
    simp
  · show Below _ _ _
    go_grown

end Go.Proofs.YtnboanlhdllhnaaGreat

/- mess: Ask of a request that creates a schema: it has its own fields alone. -/
namespace Go.Proofs.YtnboanlhdllhnaaGreat
open Go.RowKit

abbrev reqBox (k : Int) (a b : Value) (c d : Value) : Obj := .cells #[.int .i64 k, .int .i64 0, .string ⟨#[]⟩, .string ⟨#[]⟩, a, b, c, d, .slice none 0 0, .slice none 0 0] 100

set_option maxRecDepth 100000 in
set_option maxHeartbeats 1000000 in
theorem eraseTable_any (xb : Nat) (k : Int) (nm : ByteArray) (key : Int) (ca ia : Option Addr) (cn cc n ic : Nat) (w : World) (h : w.heap[xb]? = some (reqBox k (.string nm) (.slice ca cn cc) (.int .i64 key) (.slice ia n ic))) :
    Calls Tryz.prog 120 #[.agg #[], .pointer (some ⟨xb, 0, none⟩)] w fun e w' => e = .returned (.tuple #[]) ∧ Hid (w'.heap[xb]? = some (reqBox k (.string ⟨#[]⟩) (.slice none 0 0) (.int .i64 0) (.slice none 0 0))) ∧ Hid (Turn (fun i => i = xb) w w') := by
  have hlt := lt_of h
  have c4 : w.cell? ⟨xb, 4, none⟩ = some (.string nm) := by rw [cell_of h]; rfl
  have c5 : w.cell? ⟨xb, 5, none⟩ = some (.slice ca cn cc) := by rw [cell_of h]; rfl
  have c6 : w.cell? ⟨xb, 6, none⟩ = some (.int .i64 key) := by rw [cell_of h]; rfl
  have c7 : w.cell? ⟨xb, 7, none⟩ = some (.slice ia n ic) := by rw [cell_of h]; rfl
  have f4 := frozen_of h 4
  have f5 := frozen_of h 5
  have f6 := frozen_of h 6
  have f7 := frozen_of h 7
  have HH : Hid (w.heap[xb]? = some (reqBox k (.string nm) (.slice ca cn cc) (.int .i64 key) (.slice ia n ic))) := h
  clear h
  go_enter Tryz.func120, Tryz.ntmps120
  go_wp2
  go_end0
  refine ⟨rfl, ?_, ?_⟩
  · show (World.alloc _ _).heap[xb]? = _
    rw [Below.heap_alloc _ _ _ (by simpa using hlt)]
    exact heap_setCell_same (heap_setCell_same (heap_setCell_same (heap_setCell_same HH.out 4 _) 5 _) 6 _) 7 _
  · show Turn _ _ _
    exact ((((Turn.setCell (S := fun i => i = xb) _ ⟨xb, 4, none⟩ _ rfl).trans (Turn.setCell _ ⟨xb, 5, none⟩ _ rfl)).trans (Turn.setCell _ ⟨xb, 6, none⟩ _ rfl)).trans (Turn.setCell _ ⟨xb, 7, none⟩ _ rfl)).trans (Turn.alloc _ _)

set_option maxHeartbeats 400000 in
theorem isNoTable_none (w : World) : Calls Tryz.prog 87 #[.agg #[.string ⟨#[]⟩, .slice none 0 0, .int .i64 0, .slice none 0 0]] w fun e w' => e = .returned (.bool true) ∧ Below w.heap.size w w' := by
  go_enter Tryz.func87, Tryz.ntmps87
  go_wp2
  go_ret
  refine ⟨rfl, ?_⟩
  go_grown

abbrev reqVal (k : Int) (a b : Value) (c d : Value) : Value := .agg #[.int .i64 k, .int .i64 0, .string ⟨#[]⟩, .string ⟨#[]⟩, a, b, c, d, .slice none 0 0, .slice none 0 0]

set_option maxRecDepth 100000 in
set_option maxHeartbeats 2000000 in
theorem hasOwn_five (nm : ByteArray) (key : Int) (ca ia : Option Addr) (cn cc n ic : Nat) (w : World) :
    Calls Tryz.prog 66 #[reqVal 5 (.string nm) (.slice ca cn cc) (.int .i64 key) (.slice ia n ic)] w fun e w' => e = .returned (.bool true) ∧ Below w.heap.size w w' := by
  obtain ⟨xb, hxb⟩ : ∃ xb, w.heap.size = xb := ⟨_, rfl⟩
  obtain ⟨w1, hw1⟩ : ∃ w1, w.alloc (reqBox 5 (.string nm) (.slice ca cn cc) (.int .i64 key) (.slice ia n ic)) = w1 := ⟨_, rfl⟩
  have hx1 : w1.heap[xb]? = some (reqBox 5 (.string nm) (.slice ca cn cc) (.int .i64 key) (.slice ia n ic)) := by rw [← hw1, ← hxb]; exact heap_new w _
  have c0 : w1.cell? ⟨xb, 0, none⟩ = some (.int .i64 5) := by rw [cell_of hx1]; rfl
  have HB1 : Hid (Below xb w w1) := by show Below xb w w1; rw [← hw1, ← hxb]; exact (Below.refl _ _).alloc (Nat.le_refl _) _
  have HX : Hid (∀ u, Below w1.heap.size w1 u → u.heap[xb]? = some (reqBox 5 (.string nm) (.slice ca cn cc) (.int .i64 key) (.slice ia n ic))) := fun u hu => (hu.block xb (lt_of hx1)).trans hx1
  have HF : Hid (∀ m, Calls Tryz.prog 86 #[.agg #[]] (w1.drewN m) fun e w' => e = .returned eraseFs ∧ Hid (Below w1.heap.size w1 w') ∧ w'.cell? ⟨xb, 0, none⟩ = some (.int .i64 5)) := fun m => (efields_any _).mono fun e w' ⟨e1, e2⟩ => by
    have h1 : Below w1.heap.size w1 w' := (below_drewN w1 m).trans e2
    exact ⟨e1, h1, by rw [cell_of (HX.out w' h1)]; rfl⟩
  have HO : Hid (∀ u, Below w1.heap.size w1 u → Calls Tryz.prog 69 #[eraseFs, .int .i64 5] u fun e w' => ∃ g, e = .returned (.slice (some ⟨g, 0, none⟩) 1 1) ∧ w'.cell? ⟨g, 0, none⟩ = some (eraseFn 120) ∧ Hid (Below w1.heap.size w1 w')) := fun u hu => (of_five _ _ _ _ _ (.agg #[]) u).mono fun e w' ⟨g, e1, e2, e3, e4⟩ => ⟨g, e1, e2, hu.trans (e4.out.mono hu.size)⟩
  have HE : Hid (∀ u, Below w1.heap.size w1 u → Calls Tryz.prog 120 #[.agg #[], .pointer (some ⟨xb, 0, none⟩)] u fun e w' => e = .returned (.tuple #[]) ∧ Hid (w'.heap[xb]? = some (reqBox 5 (.string ⟨#[]⟩) (.slice none 0 0) (.int .i64 0) (.slice none 0 0))) ∧ Hid (Below xb w w')) := fun u hu => (eraseTable_any xb 5 nm key ca ia cn cc n ic u (HX.out u hu)).mono fun e w' ⟨e1, e2, e3⟩ => by
    have h1 := lt_of hx1
    have h2 := hu.size
    exact ⟨e1, e2, (HB1.out.trans (hu.mono (by omega))).trans ((e3.out.mono (S' := fun i => xb ≤ i) (fun i hi => by omega)).toBelow (by omega))⟩
  have HNo : Hid (∀ u, Calls Tryz.prog 87 #[.agg #[.string ⟨#[]⟩, .slice none 0 0, .int .i64 0, .slice none 0 0]] u fun e w' => e = .returned (.bool true) ∧ Hid (Below u.heap.size u w')) := fun u => isNoTable_none u
  have HQ : Hid (∀ u : World, u.heap[xb]? = some (reqBox 5 (.string ⟨#[]⟩) (.slice none 0 0) (.int .i64 0) (.slice none 0 0)) → u.cell? ⟨xb, 2, none⟩ = some (.string ⟨#[]⟩) ∧ u.cell? ⟨xb, 3, none⟩ = some (.string ⟨#[]⟩) ∧ u.cell? ⟨xb, 4, none⟩ = some (.string ⟨#[]⟩) ∧ u.cell? ⟨xb, 5, none⟩ = some (.slice none 0 0) ∧ u.cell? ⟨xb, 6, none⟩ = some (.int .i64 0) ∧ u.cell? ⟨xb, 7, none⟩ = some (.slice none 0 0) ∧ u.cell? ⟨xb, 8, none⟩ = some (.slice none 0 0) ∧ u.cell? ⟨xb, 9, none⟩ = some (.slice none 0 0)) := fun u hu => by
    refine ⟨?_, ?_, ?_, ?_, ?_, ?_, ?_, ?_⟩ <;> (rw [cell_of hu]; rfl)
  have hsf := @store_fn
  unfold eraseFs at HF HO
  unfold eraseFn at HF HO
  go_enter Tryz.func66, Tryz.ntmps66
  go_wp2_with fail
  clear hw1 hx1
  go_region_held3 (fun u => u.cell? ⟨xb, 0, none⟩ = some (.int .i64 5)) (go_keep)
    (first
      | (go_at_call 86; go_must (refine (HF.out _).mono ?_; rintro e w2 ⟨rfl, HB2, r0⟩))
      | (go_at_call 69; go_must (refine (HO.out _ HB2.out).mono ?_; rintro e w3 ⟨g, rfl, r1, HB3⟩; have r2 : w3.cell? ⟨xb, 0, none⟩ = some (.int .i64 5) := (by rw [cell_of (HX.out w3 HB3.out)]; rfl))))
  go_wp2_with fail
  have HE3 : Hid (Calls Tryz.prog 120 #[.agg #[], .pointer (some ⟨xb, 0, none⟩)] w3 fun e w' => e = .returned (.tuple #[]) ∧ Hid (w'.heap[xb]? = some (reqBox 5 (.string ⟨#[]⟩) (.slice none 0 0) (.int .i64 0) (.slice none 0 0))) ∧ Hid (Below xb w w')) := HE.out w3 HB3.out
  clear HF HO HE HB1 HB2 HB3 HX c0 r0 r2
  refine wp_loop_rounds 2 ?_
  rw [rounds_succ]
  go_wp2_with (go_at_call 120; go_must (refine HE3.out.mono ?_; rintro e w4 ⟨rfl, H4, HB4⟩))
  rw [rounds_succ]
  obtain ⟨d2, d3, d4, d5, d6, d7, d8, d9⟩ := HQ.out _ H4.out
  have HK : Hid (∀ u : World, Below w4.heap.size w4 u → u.cell? ⟨xb, 8, none⟩ = some (.slice none 0 0) ∧ u.cell? ⟨xb, 9, none⟩ = some (.slice none 0 0) ∧ Below xb w u) := fun u hu => by
    have h1 := lt_of H4.out
    obtain ⟨_, _, _, _, _, _, k8, k9⟩ := HQ.out u ((hu.block xb h1).trans H4.out)
    exact ⟨k8, k9, HB4.out.trans (hu.mono (by omega))⟩
  clear HE3 HQ H4
  go_wp2_with (go_at_call 87; go_must (refine (HNo.out _).mono ?_; rintro e w5 ⟨rfl, HB5⟩; obtain ⟨e8, e9, hb6⟩ := HK.out w5 HB5.out))
  go_ret
  rw [hxb]
  exact ⟨rfl, hb6⟩

set_option maxHeartbeats 1000000 in
theorem writeTable_any (b xb : Nat) (l : List UInt8) (w w0 : World) (F : Nat → Prop) (cv iv : Value) (T : Tab) (h : WrI b l w F) (hb : Below w0.heap.size w0 w) (hF : ∀ i, F i → w0.heap.size ≤ i) (h0 : TabV w0 cv iv T)
    (hl : l.length + (tabB T).length ≤ 65536) (hk : OkTab T) (hx : w.heap[xb]? = some (reqBox 5 (.string T.nm) cv (.int .i64 T.key) iv)) :
    Calls Tryz.prog 91 #[.pointer (some ⟨b, 0, none⟩), .pointer (some ⟨xb, 0, none⟩)] w fun e w' => e = .returned (.tuple #[]) ∧ Goes (WrI b (l ++ tabB T)) w w' F := by
  have H1 : Hid (Calls Tryz.prog 124 #[.pointer (some ⟨b, 0, none⟩), tabVal cv iv T] w fun e w' => e = .returned (.tuple #[]) ∧ Hid (Goes (WrI b (l ++ tabB T)) w w' F)) := wtable_any w0 cv iv T h hb hF h0 hl hk
  obtain ⟨g1, X, g2, g3, g4⟩ := h0
  obtain ⟨ca, cc, rfl, s1, s2⟩ := slice_shape g1
  obtain ⟨ia, ic, rfl, t1, t2⟩ := slice_shape g2
  have c4 : w.cell? ⟨xb, 4, none⟩ = some (.string T.nm) := by rw [cell_of hx]; rfl
  have c5 : w.cell? ⟨xb, 5, none⟩ = some (.slice ca T.co.length cc) := by rw [cell_of hx]; rfl
  have c6 : w.cell? ⟨xb, 6, none⟩ = some (.int .i64 T.key) := by rw [cell_of hx]; rfl
  have c7 : w.cell? ⟨xb, 7, none⟩ = some (.slice ia X.length ic) := by rw [cell_of hx]; rfl
  unfold tabVal at H1
  obtain ⟨N, hN⟩ : ∃ N, T.co.length = N := ⟨_, rfl⟩
  obtain ⟨M, hM⟩ : ∃ M, X.length = M := ⟨_, rfl⟩
  rw [hN] at H1 c5
  rw [hM] at H1 c7
  clear h hb hF g1 g2 g3 g4 hl hk hx hN hM s1 t1
  go_enter Tryz.func91, Tryz.ntmps91
  go_wp2_with (go_at_call 124; go_must (refine H1.out.mono ?_; rintro e w1 ⟨rfl, K1⟩))
  go_end0
  exact ⟨rfl, K1.out⟩

theorem wrI_new (w : World) (o : Obj) (ho : o = .cells #[.slice none 0 0, .bool false, .bool false] 122) : WrI w.heap.size [] (w.alloc o) (fun i => i = w.heap.size) := by
  subst ho
  exact ⟨none, 0, heap_new w _, World.ownsRow_nil _ _ _ _, fun i => by simp [Value.ownBlock]⟩

set_option maxRecDepth 100000 in
set_option maxHeartbeats 2000000 in
theorem ask_any (w w0 : World) (cv iv : Value) (T : Tab) (hb : Below w0.heap.size w0 w) (h0 : TabV w0 cv iv T) (hk : MayT T) :
    Calls Tryz.prog 47 #[reqVal 5 (.string T.nm) cv (.int .i64 T.key) iv] w fun e w' => e = .returned (.tuple #[.string (bytesOf (le8 5 ++ le8 0 ++ tabB T)), .int .i64 0]) ∧ Below w.heap.size w w' := by
  have hok := hk.ok
  have hfew := hk.few.1
  obtain ⟨X, hX⟩ : ∃ X, reqBox 5 (.string T.nm) cv (.int .i64 T.key) iv = X := ⟨_, rfl⟩
  obtain ⟨xb, hxb⟩ : ∃ xb, w.heap.size = xb := ⟨_, rfl⟩
  -- the writer, beside the request
  have HS1 : Hid (∀ u, Below (w.alloc X).heap.size (w.alloc X) u → ∀ o : Obj, o = .cells #[.slice none 0 0, .bool false, .bool false] 122 → Stand (WrI u.heap.size []) w (u.alloc o) [(xb, X)]) := fun u hu o ho => by
    have h1 : (w.alloc X).heap.size ≤ u.heap.size := hu.size
    have h2 : u.heap[xb]? = some X := by rw [hu.block xb (by rw [← hxb]; simp), ← hxb]; exact heap_new w X
    have hxl : xb < u.heap.size := lt_of h2
    have hbu : Below w.heap.size w u := ((Below.refl _ w).alloc (Nat.le_refl _) X).trans (hu.mono (by simp))
    have h3 : Below u.heap.size u (u.alloc o) := (Below.refl _ u).alloc (Nat.le_refl _) o
    refine ⟨fun i => i = u.heap.size, wrI_new u o ho, fun i hi => ?_, fun p hp => ?_, fun p hp => ?_, hbu.trans (h3.mono (by omega))⟩
    · omega
    · rw [List.mem_singleton.1 hp]; show ¬ xb = u.heap.size; omega
    · rw [List.mem_singleton.1 hp]; exact ⟨(h3.block xb hxl).trans h2, by rw [hxb]; exact Nat.le_refl _⟩
  have HNum : Hid (∀ u b l n, I64 n → l.length + 8 ≤ 65536 → Stand (WrI b l) w u [(xb, X)] → Calls Tryz.prog 67 #[.pointer (some ⟨b, 0, none⟩), .int .i64 n] u fun e w' => e = .returned (.tuple #[]) ∧ Hid (Stand (WrI b (l ++ le8 n)) w w' [(xb, X)])) := fun u b l n hn hl hu => by
    obtain ⟨F, k1, k2, k3⟩ := Stand.callF (I' := WrI b (l ++ le8 n)) hu
    exact (wnumber_any b l n u F k1 hl hn).mono fun e w' ⟨e1, e2⟩ => ⟨e1, k3 w' e2⟩
  have HWT : Hid (∀ u b l, l.length + (tabB T).length ≤ 65536 → Stand (WrI b l) w u [(xb, X)] → Calls Tryz.prog 91 #[.pointer (some ⟨b, 0, none⟩), .pointer (some ⟨xb, 0, none⟩)] u fun e w' => e = .returned (.tuple #[]) ∧ Hid (Stand (WrI b (l ++ tabB T)) w w' [(xb, X)])) := fun u b l hl hu => by
    obtain ⟨F, k1, k2, k3⟩ := Stand.callF (I' := WrI b (l ++ tabB T)) hu
    refine (writeTable_any b xb l u w0 F cv iv T k1 (hb.trans (hu.base.mono hb.size)) (fun i hi => Nat.le_trans hb.size (k2 i hi)) h0 hl hok ?_).mono fun e w' ⟨e1, e2⟩ => ⟨e1, k3 w' e2⟩
    rw [hX]
    exact hu.at (List.mem_singleton.2 rfl)
  have HD : Hid (∀ u b l, Stand (WrI b l) w u [(xb, X)] → Calls Tryz.prog 70 #[.pointer (some ⟨b, 0, none⟩)] u fun e w' => e = .returned (.tuple #[.string (bytesOf l), .int .i64 0]) ∧ u = w') := fun u b l hu => by
    obtain ⟨F, k1, k2, k3⟩ := Stand.callF (I' := WrI b l) hu
    exact (wdone_any k1).mono fun e w' ⟨e1, e2⟩ => ⟨e1, e2.symm⟩
  obtain ⟨g1, X', g2, g3, g4⟩ := h0
  obtain ⟨ca, cc, rfl, s1, s2⟩ := slice_shape g1
  obtain ⟨ia, ic, rfl, t1, t2⟩ := slice_shape g2
  obtain ⟨N, hN⟩ : ∃ N, T.co.length = N := ⟨_, rfl⟩
  obtain ⟨M, hM⟩ : ∃ M, X'.length = M := ⟨_, rfl⟩
  obtain ⟨key, hkey⟩ : ∃ key, T.key = key := ⟨_, rfl⟩
  obtain ⟨nm, hnm⟩ : ∃ nm, T.nm = nm := ⟨_, rfl⟩
  have HLn : Hid ((tabB T).length ≤ 5000) := hfew
  obtain ⟨B, hB⟩ : ∃ B, tabB T = B := ⟨_, rfl⟩
  rw [hB] at HWT HLn ⊢
  rw [hN, hM, hkey, hnm] at hX
  rw [hN, hM, hkey, hnm]
  have HOw : Hid (∀ u, Calls Tryz.prog 66 #[reqVal 5 (.string nm) (.slice ca N cc) (.int .i64 key) (.slice ia M ic)] u fun e w' => e = .returned (.bool true) ∧ Hid (Below u.heap.size u w')) := fun u => hasOwn_five nm key ca ia N cc M ic u
  have HXA : Hid (w.alloc X = w.alloc X) := rfl
  clear g1 g2 g3 g4 hok hk hfew hb s1 t1 hN hM hkey hnm hB
  subst hX
  have HBx : Hid (∀ u, Below (w.alloc (reqBox 5 (.string nm) (.slice ca N cc) (.int .i64 key) (.slice ia M ic))).heap.size (w.alloc (reqBox 5 (.string nm) (.slice ca N cc) (.int .i64 key) (.slice ia M ic))) u → u.cell? ⟨xb, 0, none⟩ = some (.int .i64 5) ∧ u.cell? ⟨xb, 1, none⟩ = some (.int .i64 0) ∧ xb < u.heap.size) := fun u hu => by
    have h2 : u.heap[xb]? = some (reqBox 5 (.string nm) (.slice ca N cc) (.int .i64 key) (.slice ia M ic)) := by rw [hu.block xb (by rw [← hxb]; simp), ← hxb]; exact heap_new w _
    exact ⟨by rw [cell_of h2]; rfl, by rw [cell_of h2]; rfl, lt_of h2⟩
  have HBs : Hid (∀ u b l, Stand (WrI b l) w u [(xb, reqBox 5 (.string nm) (.slice ca N cc) (.int .i64 key) (.slice ia M ic))] → u.cell? ⟨xb, 0, none⟩ = some (.int .i64 5) ∧ u.cell? ⟨xb, 1, none⟩ = some (.int .i64 0)) := fun u b l hu => by
    have h2 := hu.at (List.mem_singleton.2 rfl)
    exact ⟨by rw [cell_of h2]; rfl, by rw [cell_of h2]; rfl⟩
  have HN1 : Hid (∀ u, Below (w.alloc (reqBox 5 (.string nm) (.slice ca N cc) (.int .i64 key) (.slice ia M ic))).heap.size (w.alloc (reqBox 5 (.string nm) (.slice ca N cc) (.int .i64 key) (.slice ia M ic))) u → Calls Tryz.prog 67 #[.pointer (some ⟨u.heap.size, 0, none⟩), .int .i64 5] (u.alloc (.cells #[.slice none 0 0, .bool false, .bool false] 122)) fun e w' => e = .returned (.tuple #[]) ∧ Hid (Stand (WrI u.heap.size (le8 5)) w w' [(xb, reqBox 5 (.string nm) (.slice ca N cc) (.int .i64 key) (.slice ia M ic))])) := fun u hu =>
    HNum.out _ _ [] 5 (by decide) (by decide) (HS1.out u hu _ rfl)
  have HN2 : Hid (∀ u b, Stand (WrI b (le8 5)) w u [(xb, reqBox 5 (.string nm) (.slice ca N cc) (.int .i64 key) (.slice ia M ic))] → Calls Tryz.prog 67 #[.pointer (some ⟨b, 0, none⟩), .int .i64 0] u fun e w' => e = .returned (.tuple #[]) ∧ Hid (Stand (WrI b (le8 5 ++ le8 0)) w w' [(xb, reqBox 5 (.string nm) (.slice ca N cc) (.int .i64 key) (.slice ia M ic))])) := fun u b hu =>
    HNum.out _ _ (le8 5) 0 (by decide) (by rw [le8_length]; omega) hu
  have HWT2 : Hid (∀ u b, Stand (WrI b (le8 5 ++ le8 0)) w u [(xb, reqBox 5 (.string nm) (.slice ca N cc) (.int .i64 key) (.slice ia M ic))] → Calls Tryz.prog 91 #[.pointer (some ⟨b, 0, none⟩), .pointer (some ⟨xb, 0, none⟩)] u fun e w' => e = .returned (.tuple #[]) ∧ Hid (Stand (WrI b (le8 5 ++ le8 0 ++ B)) w w' [(xb, reqBox 5 (.string nm) (.slice ca N cc) (.int .i64 key) (.slice ia M ic))])) := fun u b hu =>
    HWT.out u b _ (by rw [List.length_append, le8_length, le8_length]; have := HLn.out; omega) hu
  have HFl : Hid (∀ u b, Stand (WrI b (le8 5 ++ le8 0)) w u [(xb, reqBox 5 (.string nm) (.slice ca N cc) (.int .i64 key) (.slice ia M ic))] → ∀ m, Calls Tryz.prog 68 #[.pointer (some ⟨b, 0, none⟩)] (u.drewN m) fun e w' => e = .returned (writeFs b) ∧ Hid (Stand (WrI b (le8 5 ++ le8 0)) w w' [(xb, reqBox 5 (.string nm) (.slice ca N cc) (.int .i64 key) (.slice ia M ic))]) ∧ w'.cell? ⟨xb, 0, none⟩ = some (.int .i64 5)) := fun u b hu m => (wfields_any b _).mono fun e w' ⟨e1, e2⟩ => by
    have h1 := hu.below (wrI_res _ _) ((below_drewN u m).trans e2)
    exact ⟨e1, h1, (HBs.out w' _ _ h1).1⟩
  have HOf : Hid (∀ u b, Stand (WrI b (le8 5 ++ le8 0)) w u [(xb, reqBox 5 (.string nm) (.slice ca N cc) (.int .i64 key) (.slice ia M ic))] → Calls Tryz.prog 69 #[writeFs b, .int .i64 5] u fun e w' => ∃ g, e = .returned (.slice (some ⟨g, 0, none⟩) 1 1) ∧ w'.cell? ⟨g, 0, none⟩ = some (boundFn 91 b) ∧ Hid (Stand (WrI b (le8 5 ++ le8 0)) w w' [(xb, reqBox 5 (.string nm) (.slice ca N cc) (.int .i64 key) (.slice ia M ic))]) ∧ w'.cell? ⟨xb, 0, none⟩ = some (.int .i64 5)) := fun u b hu => (of_five _ _ _ _ _ (.pointer (some ⟨b, 0, none⟩)) u).mono fun e w' ⟨g, e1, e2, e3, e4⟩ => by
    have h1 := hu.below (wrI_res _ _) e4.out
    exact ⟨g, e1, e2, h1, (HBs.out w' _ _ h1).1⟩
  unfold writeFs at HFl HOf
  unfold boundFn at HFl HOf
  have hsf := @store_fn
  clear HNum HWT HS1 HXA
  go_enter Tryz.func47, Tryz.ntmps47
  go_wp2_with (first
    | (go_at_call 65; go_must (refine (isRequest_five _).mono ?_; rintro e w' ⟨rfl, rfl⟩))
    | (go_at_call 66; go_must (refine (HOw.out _).mono ?_; rintro e w2 ⟨rfl, HB2⟩; obtain ⟨c0, c1, hxl⟩ := HBx.out w2 HB2.out))
    | (go_at_call 67; refine (HN2.out _ _ K1.out).mono ?_; rintro e w4 ⟨rfl, K2⟩; obtain ⟨c4, c5⟩ := HBs.out _ _ _ K2.out)
    | (go_at_call 67; go_must (refine (HN1.out _ HB2.out).mono ?_; rintro e w3 ⟨rfl, K1⟩; obtain ⟨c2, c3⟩ := HBs.out _ _ _ K1.out)))
  obtain ⟨wb, hwb⟩ : ∃ wb, w2.heap.size = wb := ⟨_, rfl⟩
  rw [hwb] at K2 ⊢
  clear HN1 HN2 HB2 HBx HOw K1 c0 c1 c2 c3
  go_region_held3 (fun u => u.cell? ⟨xb, 0, none⟩ = some (.int .i64 5)) (go_keep)
    (first
      | (go_at_call 68; go_must (refine (HFl.out _ _ K2.out _).mono ?_; rintro e w5 ⟨rfl, K3, r0⟩))
      | (go_at_call 69; go_must (refine (HOf.out _ _ K3.out).mono ?_; rintro e w6 ⟨g, rfl, r1, K4, r2⟩)))
  go_wp2_with fail
  refine wp_loop_rounds 2 ?_
  rw [rounds_succ]
  go_wp2_with (go_at_call 91; go_must (refine (HWT2.out _ _ K4.out).mono ?_; rintro e w7 ⟨rfl, K5⟩))
  rw [rounds_succ]
  go_wp2_with (go_at_call 70; go_must (refine (HD.out _ _ _ K5.out).mono ?_; rintro e w8 ⟨rfl, rfl⟩))
  go_ret2
  exact ⟨rfl, K5.out.base⟩

end Go.Proofs.YtnboanlhdllhnaaGreat
