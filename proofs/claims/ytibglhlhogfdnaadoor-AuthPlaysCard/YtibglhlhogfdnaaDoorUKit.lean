/- What is asked of the program's auth (its contracts, as one hypothesis), and what the chapter's example comes to. -/
import Derived.Test.YtibglhlhogfdnaaDoorUPure
import Derived.Test.YtibglhlhogfdnaaDoorQRefM
namespace Go.Proofs.YtibglhlhogfdnaaDoor
open Go.RowKit QP AP

/-- a slice of texts that is new -/
def RowT (w : World) (base : Nat) (v : Value) (L : List ByteArray) : Prop :=
  ∃ a c, v = .slice a L.length c ∧ L.length ≤ c ∧ c ≤ maxLen ∧ (a = none → c = 0) ∧ (L ≠ [] → ∃ b off C, a = some ⟨b, off, none⟩ ∧ base ≤ b ∧ w.heap[b]? = some (.cells C 9 (0, 0)) ∧ ∀ i, (h : i < L.length) → C[off + i]? = some (.string L[i]))
def namesOf (K : List Kv) : List ByteArray := K.map (·.1)

/-- the contracts of the program's calls; Ok: what they ask of a world -/
structure KitA where
  Ok : World → Prop
  ok : ∀ {w w' : World}, Ok w → Below w.heap.size w w' → Ok w'
  I : Nat → List Kv → World → (Nat → Prop) → Prop
  res : ∀ g K, Res (I g K)
  rise : ∀ {g K w F}, I g K w F → Rise K ∧ K.length ≤ 4096
  new : ∀ w : World, Ok w → Calls Tryd.prog 7 #[] w fun e w' => ∃ g F, e = .returned (.pointer (some ⟨g, 0, none⟩)) ∧ I g [] w' F ∧ (∀ i, F i → w.heap.size ≤ i) ∧ Below w.heap.size w w'
  put : ∀ (g : Nat) (K : List Kv) (n k : ByteArray) (w : World) (F : Nat → Prop), Ok w → I g K w F → n.size ≤ 140737488355328 → k.size ≤ 140737488355328 → Calls Tryd.prog 12 #[.pointer (some ⟨g, 0, none⟩), .string n, .string k] w fun e w' => e = .returned (.int .i64 (putE K n k)) ∧ Goes (I g (putK K n k)) w w' F
  take : ∀ (g : Nat) (K : List Kv) (n : ByteArray) (w : World) (F : Nat → Prop), Ok w → I g K w F → n.size ≤ 140737488355328 → Calls Tryd.prog 14 #[.pointer (some ⟨g, 0, none⟩), .string n] w fun e w' => e = .returned (.int .i64 (takeE K n)) ∧ Goes (I g (delK n K)) w w' F
  names : ∀ (g : Nat) (K : List Kv) (w : World) (F : Nat → Prop), Ok w → I g K w F → Calls Tryd.prog 21 #[.pointer (some ⟨g, 0, none⟩)] w fun e w' => ∃ v F', e = .returned v ∧ RowT w' w.heap.size v (namesOf K) ∧ I g K w' F' ∧ Turn F w w' ∧ (∀ i, F' i → F i ∨ w.heap.size ≤ i) ∧ ∀ i, v.ownBlock = some i → ¬ F' i
  chal : ∀ (d : Nat) (n : Int) (w : World), Ok w → d < 18446744073709551616 → Calls Tryd.prog 9 #[.int .u64 (d : Int), .int .i64 n] w fun e w' => e = .returned (.string (chal d (IntKind.u64.wrap n).toNat)) ∧ Below w.heap.size w w'
  proof : ∀ (k n c : ByteArray) (w : World), Ok w → k.size ≤ 10000 → n.size ≤ 10000 → c.size ≤ 10000 → Calls Tryd.prog 16 #[.string k, .string n, .string c] w fun e w' => e = .returned (.string (proof k n c)) ∧ Below w.heap.size w w'
  check : ∀ (g : Nat) (K : List Kv) (n c p : ByteArray) (w : World) (F : Nat → Prop), Ok w → I g K w F → n.size ≤ 10000 → c.size ≤ 10000 → p.size ≤ 140737488355328 → Calls Tryd.prog 18 #[.pointer (some ⟨g, 0, none⟩), .string n, .string c, .string p] w fun e w' => e = .returned (.int .i64 (checkE K n c p)) ∧ Goes (I g K) w w' F

section
variable {T : KitA} {g : Nat} {K : List Kv} {w wr : World} {L : List (Nat × Obj)}
/-- a table of a law's own, and its calls -/
theorem KitA.okAt (T : KitA) {I : World → (Nat → Prop) → Prop} (hw : T.Ok w) (h : Stand I w wr L) : T.Ok wr := T.ok hw h.base
theorem sput (hw : T.Ok w) (h : Stand (T.I g K) w wr L) (n k : ByteArray) (hn : n.size ≤ 140737488355328) (hk : k.size ≤ 140737488355328) : Calls Tryd.prog 12 #[.pointer (some ⟨g, 0, none⟩), .string n, .string k] wr fun e w' => e = .returned (.int .i64 (putE K n k)) ∧ Stand (T.I g (putK K n k)) w w' L := by
  obtain ⟨F, h1, h2⟩ := h.call (I' := T.I g (putK K n k))
  exact (T.put g K n k wr F (T.okAt hw h) h1 hn hk).mono fun _ _ x => ⟨x.1, h2 _ x.2⟩
theorem stake (hw : T.Ok w) (h : Stand (T.I g K) w wr L) (n : ByteArray) (hn : n.size ≤ 140737488355328) : Calls Tryd.prog 14 #[.pointer (some ⟨g, 0, none⟩), .string n] wr fun e w' => e = .returned (.int .i64 (takeE K n)) ∧ Stand (T.I g (delK n K)) w w' L := by
  obtain ⟨F, h1, h2⟩ := h.call (I' := T.I g (delK n K))
  exact (T.take g K n wr F (T.okAt hw h) h1 hn).mono fun _ _ x => ⟨x.1, h2 _ x.2⟩
theorem scheck (hw : T.Ok w) (h : Stand (T.I g K) w wr L) (n c p : ByteArray) (hn : n.size ≤ 10000) (hc : c.size ≤ 10000) (hp : p.size ≤ 140737488355328) : Calls Tryd.prog 18 #[.pointer (some ⟨g, 0, none⟩), .string n, .string c, .string p] wr fun e w' => e = .returned (.int .i64 (checkE K n c p)) ∧ Stand (T.I g K) w w' L := by
  obtain ⟨F, h1, h2⟩ := h.call (I' := T.I g K)
  exact (T.check g K n c p wr F (T.okAt hw h) h1 hn hc hp).mono fun _ _ x => ⟨x.1, h2 _ x.2⟩
theorem schal (hw : T.Ok w) (h : Stand (T.I g K) w wr L) (d : Nat) (n : Int) (hd : d < 18446744073709551616) : Calls Tryd.prog 9 #[.int .u64 (d : Int), .int .i64 n] wr fun e w' => e = .returned (.string (chal d (IntKind.u64.wrap n).toNat)) ∧ Stand (T.I g K) w w' L :=
  (T.chal d n wr (T.okAt hw h) hd).mono fun _ _ x => ⟨x.1, h.below (T.res g K) x.2⟩
theorem sproof (hw : T.Ok w) (h : Stand (T.I g K) w wr L) (k n c : ByteArray) (hk : k.size ≤ 10000) (hn : n.size ≤ 10000) (hc : c.size ≤ 10000) : Calls Tryd.prog 16 #[.string k, .string n, .string c] wr fun e w' => e = .returned (.string (proof k n c)) ∧ Stand (T.I g K) w w' L :=
  (T.proof k n c wr (T.okAt hw h) hk hn hc).mono fun _ _ x => ⟨x.1, h.below (T.res g K) x.2⟩
theorem snew (hw : T.Ok w) (hb : Below w.heap.size w wr) : Calls Tryd.prog 7 #[] wr fun e w' => ∃ g, e = .returned (.pointer (some ⟨g, 0, none⟩)) ∧ Stand (T.I g []) w w' [] :=
  (T.new wr (T.ok hw hb)).mono fun _ _ ⟨g, _, h1, h2, h3, h4⟩ => ⟨g, h1, Stand.start h2 (fun i hi => Nat.le_trans hb.size (h3 i hi)) (hb.trans (h4.mono hb.size))⟩
end

/-! ### the chapter's example -/
abbrev ann : ByteArray := ⟨#[97, 110, 110]⟩
abbrev bob : ByteArray := ⟨#[98, 111, 98]⟩
abbrev kk : ByteArray := ⟨#[107]⟩
abbrev xk : ByteArray := ⟨#[120]⟩
theorem proofs_differ : proof xk ann (chal 5 0) ≠ proof kk ann (chal 5 0) := by
  intro h
  have h2 := congrArg nb h
  unfold AP.proof at h2
  have e1 : nb xk = [120] := rfl
  have e2 : nb kk = [107] := rfl
  have e3 : nb ann = [97, 110, 110] := rfl
  have b1 : Bytes (mac (nb xk) (nb ann ++ 0 :: nb (chal 5 0))) := dig_bytes _
  have b2 : Bytes (mac (nb kk) (nb ann ++ 0 :: nb (chal 5 0))) := dig_bytes _
  rw [nb_ofN b1, nb_ofN b2, e1, e2, e3] at h2
  have e4 : nb (chal 5 0) = dig (word ++ le8 5 ++ le8 0) := nb_ofN (dig_bytes _)
  rw [e4] at h2
  revert h2
  decide +kernel
abbrev K1 : List Kv := [(ann, kk)]
theorem put_ann : putE [] ann kk = 0 ∧ putK [] ann kk = K1 := by
  have h1 : nameOk ann = true := by decide
  have h : putE [] ann kk = 0 := by
    unfold putE
    rw [h1]
    rfl
  exact ⟨h, by rw [putK_ok h]; rfl⟩
theorem get_ann : getK ann K1 = some kk := by unfold getK; rw [if_pos rfl]
theorem get_bob : getK bob K1 = none := by
  unfold getK
  rw [if_neg (by decide)]
  rfl

set_option maxRecDepth 100000 in
set_option maxHeartbeats 2000000 in
theorem works_any (T : KitA) (w : World) (hw : T.Ok w) : Calls Tryd.prog 8 #[] w fun e w' => e = .returned (.bool true) ∧ Below w.heap.size w w' := by
  obtain ⟨c, hc⟩ : ∃ c, chal 5 0 = c := ⟨_, rfl⟩
  have hcs : c.size = 32 := by rw [← hc, chal_size]
  obtain ⟨p1, hp1⟩ : ∃ p, proof kk ann c = p := ⟨_, rfl⟩
  obtain ⟨p2, hp2⟩ : ∃ p, proof xk ann c = p := ⟨_, rfl⟩
  obtain ⟨p3, hp3⟩ : ∃ p, proof kk bob c = p := ⟨_, rfl⟩
  have z1 : p1.size = 32 := by rw [← hp1, proof_size]
  have z2 : p2.size = 32 := by rw [← hp2, proof_size]
  have z3 : p3.size = 32 := by rw [← hp3, proof_size]
  have c1 : checkE K1 ann c p1 = 0 := by rw [← hp1]; exact checkE_yes get_ann c
  have c2 : checkE K1 ann c p2 = 250 := checkE_no get_ann (by rw [← hp2, ← hc]; exact proofs_differ)
  have c3 : checkE K1 bob c p3 = 250 := checkE_none get_bob c p3
  have HN : Hid (Calls Tryd.prog 7 #[] w fun e w' => ∃ g, e = .returned (.pointer (some ⟨g, 0, none⟩)) ∧ Stand (T.I g []) w w' []) := snew hw (Below.refl _ _)
  have HP : Hid (∀ g u, Stand (T.I g []) w u [] → Calls Tryd.prog 12 #[.pointer (some ⟨g, 0, none⟩), .string ann, .string kk] u fun e w' => e = .returned (.int .i64 0) ∧ Stand (T.I g K1) w w' []) := fun g u h => by
    have := sput hw h ann kk (by decide) (by decide)
    rw [put_ann.1, put_ann.2] at this
    exact this
  have HC : Hid (∀ g u, Stand (T.I g K1) w u [] → Calls Tryd.prog 9 #[.int .u64 5, .int .i64 0] u fun e w' => e = .returned (.string c) ∧ Stand (T.I g K1) w w' []) := fun g u h => by
    have := schal hw h 5 0 (by decide)
    rw [show (IntKind.u64.wrap 0).toNat = 0 from rfl, hc] at this
    exact this
  have H1 : Hid (∀ g u, Stand (T.I g K1) w u [] → Calls Tryd.prog 16 #[.string kk, .string ann, .string c] u fun e w' => e = .returned (.string p1) ∧ Stand (T.I g K1) w w' []) := fun g u h => by
    have := sproof hw h kk ann c (by decide) (by decide) (by omega)
    rw [hp1] at this
    exact this
  have H2 : Hid (∀ g u, Stand (T.I g K1) w u [] → Calls Tryd.prog 16 #[.string xk, .string ann, .string c] u fun e w' => e = .returned (.string p2) ∧ Stand (T.I g K1) w w' []) := fun g u h => by
    have := sproof hw h xk ann c (by decide) (by decide) (by omega)
    rw [hp2] at this
    exact this
  have H3 : Hid (∀ g u, Stand (T.I g K1) w u [] → Calls Tryd.prog 16 #[.string kk, .string bob, .string c] u fun e w' => e = .returned (.string p3) ∧ Stand (T.I g K1) w w' []) := fun g u h => by
    have := sproof hw h kk bob c (by decide) (by decide) (by omega)
    rw [hp3] at this
    exact this
  have D1 : Hid (∀ g u, Stand (T.I g K1) w u [] → Calls Tryd.prog 18 #[.pointer (some ⟨g, 0, none⟩), .string ann, .string c, .string p1] u fun e w' => e = .returned (.int .i64 0) ∧ Stand (T.I g K1) w w' []) := fun g u h => by
    have := scheck hw h ann c p1 (by decide) (by omega) (by omega)
    rw [c1] at this
    exact this
  have D2 : Hid (∀ g u, Stand (T.I g K1) w u [] → Calls Tryd.prog 18 #[.pointer (some ⟨g, 0, none⟩), .string ann, .string c, .string p2] u fun e w' => e = .returned (.int .i64 250) ∧ Stand (T.I g K1) w w' []) := fun g u h => by
    have := scheck hw h ann c p2 (by decide) (by omega) (by omega)
    rw [c2] at this
    exact this
  have D3 : Hid (∀ g u, Stand (T.I g K1) w u [] → Calls Tryd.prog 18 #[.pointer (some ⟨g, 0, none⟩), .string bob, .string c, .string p3] u fun e w' => e = .returned (.int .i64 250) ∧ Stand (T.I g K1) w w' []) := fun g u h => by
    have := scheck hw h bob c p3 (by decide) (by omega) (by omega)
    rw [c3] at this
    exact this
  have hcI : ((c.size : Int) == 32) = true := by rw [hcs]; rfl
  clear hc hp1 hp2 hp3 c1 c2 c3 z1 z2 z3 hcs
  go_enter Tryd.func8, Tryd.ntmps8
  go_wp2_with fail
  refine HN.out.mono ?_
  rintro y w1 ⟨g, rfl, hs1⟩
  go_wp2_with fail
  refine (HP.out _ _ hs1).mono ?_
  rintro y w2 ⟨rfl, hs2⟩
  go_wp2_with fail
  refine (HC.out _ _ hs2).mono ?_
  rintro y w3 ⟨rfl, hs3⟩
  go_wp2_with fail
  refine (H1.out _ _ hs3).mono ?_
  rintro y w4 ⟨rfl, hs4⟩
  go_wp2_with fail
  refine (D1.out _ _ hs4).mono ?_
  rintro y w5 ⟨rfl, hs5⟩
  go_wp2_with fail
  refine (H2.out _ _ hs5).mono ?_
  rintro y w6 ⟨rfl, hs6⟩
  go_wp2_with fail
  refine (D2.out _ _ hs6).mono ?_
  rintro y w7 ⟨rfl, hs7⟩
  go_wp2_with fail
  refine (H3.out _ _ hs7).mono ?_
  rintro y w8 ⟨rfl, hs8⟩
  go_wp2_with fail
  refine (D3.out _ _ hs8).mono ?_
  rintro y w9 ⟨rfl, hs9⟩
  go_wp2_with fail
  go_ret
  exact ⟨rfl, hs9.base⟩
end Go.Proofs.YtibglhlhogfdnaaDoor
