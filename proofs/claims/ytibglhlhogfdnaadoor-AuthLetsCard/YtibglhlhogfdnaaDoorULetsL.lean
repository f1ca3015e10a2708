/- AuthLets: the law's walk. -/
import Derived.Test.YtibglhlhogfdnaaDoorUKit
namespace Go.Proofs.YtibglhlhogfdnaaDoor
open Go.RowKit QP AP

theorem RowM.set {k : IntKind} {e : TypeId} {w : World} {g cap : Nat} {X : List Nat} (h : RowM k e w g cap X) {i : Nat} (hi : i < X.length) (y : Nat) : RowM k e (w.setCell ⟨g, i, none⟩ (.int k (y : Int))) g cap (X.set i y) := by
  obtain ⟨cur, fz, h1, h2, h3, h4, h5, h6⟩ := h
  refine ⟨_, fz, heap_setCell_same h1 i _, by simpa using h2, by rw [List.length_set]; exact h3, h4, by simpa using h5, ?_⟩
  have h7 := flat_set (en := enK k) (m := 1) (fun _ => rfl) X i hi 0 (.int k (y : Int)) y (by omega) rfl
  rw [Nat.one_mul, Nat.add_zero] at h7
  rw [List.length_set, ← h7, ← h6, Array.toList_setIfInBounds, List.take_set]
theorem RowM.frozen {k : IntKind} {e : TypeId} {w : World} {g cap : Nat} {X : List Nat} (h : RowM k e w g cap X) {i : Nat} (hi : i < X.length) : w.frozen? ⟨g, i, none⟩ = false := by
  obtain ⟨cur, fz, h1, h2, h3, h4, h5, h6⟩ := h
  obtain ⟨lo, hi'⟩ := fz
  simp only [World.frozen?, h1, Bool.and_eq_false_iff, decide_eq_false_iff_not]
  simp only at h2
  rcases h2 with h | h
  · right; omega
  · left; omega
theorem str_rowM {w : World} {g n cap : Nat} {L : List Nat} (h : RowM .u8 5 w g cap L) (hL : Bytes L) (hn : L.length = n) : (convert 45 9 (.slice (some ⟨g, 0, none⟩) n cap)).run Tryd.prog w = .ok (.string (ofN L)) w := by
  subst hn
  have h2 := run_convert_bytes_back (P := Tryd.prog) w 45 9 5 ⟨g, 0, none⟩ cap (L.map UInt8.ofNat) Tryd.underlying45 Tryd.underlying5 Tryd.underlying9 fun j hj => by
    have hj' : j < L.length := by simpa using hj
    have h4 := h.cell (i := j) (x := L[j]) (List.getElem?_eq_getElem hj')
    rw [Addr.add_lit, Nat.zero_add, h4]
    have h5 := hL L[j] (List.getElem_mem hj')
    simp
    omega
  rw [List.length_map] at h2
  exact h2
/-- a byte that is put together with another one than 0 is another one -/
theorem xor_ne {x y : Nat} (hy : y ≠ 0) : x ^^^ y ≠ x := fun h => hy (by
  have : x ^^^ (x ^^^ y) = x ^^^ x := by rw [h]
  rw [← Nat.xor_assoc, Nat.xor_self, Nat.zero_xor] at this
  exact this)
namespace LetsL

set_option maxRecDepth 100000 in
set_option maxHeartbeats 2000000 in
theorem walk (T : KitA) (n k : ByteArray) (d b : Nat) (at0 : Int) (w : World) (hw : T.Ok w) (hn : n.size ≤ 140737488355328) (hk : k.size ≤ 140737488355328) (hd : d < 18446744073709551616) (hb : b < 256) : Calls Tryd.prog 4 #[.string n, .string k, .agg #[.int .u64 (d : Int), .int .i64 at0, .int .u8 (b : Int)]] w fun e w' => e = .returned (.bool true) ∧ Below w.heap.size w w' := by
  have HN : Hid (∀ u, Below w.heap.size w u → Calls Tryd.prog 7 #[] u fun e w' => ∃ g, e = .returned (.pointer (some ⟨g, 0, none⟩)) ∧ Stand (T.I g []) w w' []) := fun u hu => snew hw hu
  have HW : Hid (∀ g K u, Stand (T.I g K) w u [] → Calls Tryd.prog 8 #[] u fun e w' => e = .returned (.bool true) ∧ Stand (T.I g K) w w' []) := fun g K u hu => (works_any T u (T.okAt hw hu)).mono fun _ _ x => ⟨x.1, hu.below (T.res g K) x.2⟩
  have HP : Hid (∀ g u, Stand (T.I g []) w u [] → Calls Tryd.prog 12 #[.pointer (some ⟨g, 0, none⟩), .string n, .string k] u fun e w' => e = .returned (.int .i64 (putE [] n k)) ∧ Stand (T.I g (putK [] n k)) w w' []) := fun g u h => sput hw h n k hn hk
  obtain ⟨E, hE⟩ : ∃ E, putE [] n k = E := ⟨_, rfl⟩
  by_cases h0 : E = 0
  · subst h0
    obtain ⟨U, hU⟩ : ∃ U : Nat, IntKind.u64.wrap at0 = (U : Int) := ⟨(IntKind.u64.wrap at0).toNat, by
      have : 0 ≤ IntKind.u64.wrap at0 := by simp [IntKind.wrap, IntKind.bits, IntKind.signed]; omega
      omega⟩
    obtain ⟨hnm, hk1, hk2, _⟩ : nameOk n = true ∧ 1 ≤ k.size ∧ k.size ≤ 64 ∧ True := by
      rcases putE_cases [] n k with h | h | h
      · rw [hE] at h; cases h
      · rw [hE] at h; cases h
      · exact ⟨h.2.1, h.2.2.1, h.2.2.2.1, trivial⟩
    have hns := nameOk_size hnm
    have hKp : putK [] n k = [(n, k)] := by rw [putK_ok hE]; rfl
    have hget : getK n [(n, k)] = some k := by unfold getK; rw [if_pos rfl]
    have hdel : delK n [(n, k)] = [] := by unfold delK; simp
    obtain ⟨c, hc⟩ : ∃ c, chal d U = c := ⟨_, rfl⟩
    have hcs : c.size = 32 := by rw [← hc, chal_size]
    obtain ⟨p, hp⟩ : ∃ p, proof k n c = p := ⟨_, rfl⟩
    have hps : p.size = 32 := by rw [← hp, proof_size]
    have c1 : checkE [(n, k)] n c p = 0 := by rw [← hp]; exact checkE_yes hget c
    have cNo : ∀ q, q ≠ p → checkE [(n, k)] n c q = 250 := fun q hq => checkE_no hget (by rw [hp]; exact hq)
    have c4 : checkE [] n c p = 250 := checkE_none rfl c p
    have t1 : takeE [(n, k)] n = 0 := by unfold takeE; rw [hget]; rfl
    rw [hE, hKp] at HP
    have HC : Hid (∀ g u, Stand (T.I g [(n, k)]) w u [] → Calls Tryd.prog 9 #[.int .u64 (d : Int), .int .i64 at0] u fun e w' => e = .returned (.string c) ∧ Stand (T.I g [(n, k)]) w w' []) := fun g u h => by
      have := schal hw h d at0 hd
      rw [show (IntKind.u64.wrap at0).toNat = U by rw [hU]; rfl, hc] at this
      exact this
    have HPr : Hid (∀ g u, Stand (T.I g [(n, k)]) w u [] → Calls Tryd.prog 16 #[.string k, .string n, .string c] u fun e w' => e = .returned (.string p) ∧ Stand (T.I g [(n, k)]) w w' []) := fun g u h => by
      have := sproof hw h k n c (by omega) (by omega) (by omega)
      rw [hp] at this
      exact this
    have D1 : Hid (∀ g u, Stand (T.I g [(n, k)]) w u [] → Calls Tryd.prog 18 #[.pointer (some ⟨g, 0, none⟩), .string n, .string c, .string p] u fun e w' => e = .returned (.int .i64 0) ∧ Stand (T.I g [(n, k)]) w w' []) := fun g u h => by
      have := scheck hw h n c p (by omega) (by omega) (by omega)
      rw [c1] at this
      exact this
    have D2 : Hid (∀ g (q : ByteArray) u, q ≠ p → q.size ≤ 32 → Stand (T.I g [(n, k)]) w u [] → Calls Tryd.prog 18 #[.pointer (some ⟨g, 0, none⟩), .string n, .string c, .string q] u fun e w' => e = .returned (.int .i64 250) ∧ Stand (T.I g [(n, k)]) w w' []) := fun g q u hq hqs h => by
      have := scheck hw h n c q (by omega) (by omega) (by omega)
      rw [cNo q hq] at this
      exact this
    have D3 : Hid (∀ g u, Stand (T.I g [(n, k)]) w u [] → Calls Tryd.prog 14 #[.pointer (some ⟨g, 0, none⟩), .string n] u fun e w' => e = .returned (.int .i64 0) ∧ Stand (T.I g []) w w' []) := fun g u h => by
      have := stake hw h n hn
      rw [t1, hdel] at this
      exact this
    have D4 : Hid (∀ g u, Stand (T.I g []) w u [] → Calls Tryd.prog 18 #[.pointer (some ⟨g, 0, none⟩), .string n, .string c, .string p] u fun e w' => e = .returned (.int .i64 250) ∧ Stand (T.I g []) w w' []) := fun g u h => by
      have := scheck hw h n c p (by omega) (by omega) (by omega)
      rw [c4] at this
      exact this
    have hpI : ((p.size : Int) != 32) = false := by rw [hps]; rfl
    obtain ⟨r, hr⟩ : ∃ r, U % 32 = r := ⟨_, rfl⟩
    have hr32 : r < 32 := by omega
    have hrI : (U : Int) % 32 = (r : Int) := by omega
    have hrT : (U : Int).tmod 32 = (r : Int) := by rw [Int.tmod_eq_emod_of_nonneg (by omega)]; exact hrI
    have wr0 : IntKind.u64.wrap (r : Int) = (r : Int) := by simp [IntKind.wrap, IntKind.bits, IntKind.signed]; omega
    have wr1 : IntKind.i64.wrap (r : Int) = (r : Int) := by simp [IntKind.wrap, IntKind.bits, IntKind.signed]; omega
    obtain ⟨y, hy⟩ : ∃ y, (if b = 0 then 1 else b) = y := ⟨_, rfl⟩
    have hy0 : y ≠ 0 := by rw [← hy]; split <;> omega
    have hyb : y < 256 := by rw [← hy]; split <;> omega
    obtain ⟨x, hx⟩ : ∃ x, (nb p)[r]? = some x := ⟨_, List.getElem?_eq_getElem (by rw [nb_length, hps]; exact hr32)⟩
    have hxb : x < 256 := nb_bytes p x (List.mem_of_getElem? hx)
    obtain ⟨v, hv⟩ : ∃ v, x ^^^ y = v := ⟨_, rfl⟩
    have hvb : v < 256 := by rw [← hv]; exact Nat.xor_lt_two_pow (n := 8) hxb hyb
    have hvx : v ≠ x := by rw [← hv]; exact xor_ne hy0
    have bx : bits .xor .u8 (x : Int) (y : Int) = (v : Int) := by rw [u8_xor_nat x y hxb hyb, hv]
    have hLb : Bytes ((nb p).set r v) := fun z hz => by
      rcases List.mem_or_eq_of_mem_set hz with h | h
      · exact nb_bytes p z h
      · rw [h]; exact hvb
    obtain ⟨q, hq⟩ : ∃ q, ofN ((nb p).set r v) = q := ⟨_, rfl⟩
    have hqs : q.size = 32 := by rw [← hq, ofN_size, List.length_set, nb_length, hps]
    have hqp : q ≠ p := fun e => by
      have e1 : nb q = (nb p).set r v := by rw [← hq, nb_ofN hLb]
      have e2 : ((nb p).set r v)[r]? = some x := by rw [← e1, e, hx]
      rw [List.getElem?_set_self (by rw [nb_length, hps]; exact hr32)] at e2
      exact hvx (Option.some.inj e2)
    have hpz : (p.extract 0 r).size = r := by rw [ByteArray.size_extract, hps]; omega
    have hpe : p.extract 0 r ≠ p := fun e => by rw [e, hps] at hpz; omega
    clear hE hKp hc hp c1 cNo c4 t1
    by_cases hb0 : b = 0
    · subst hb0
      obtain rfl : y = 1 := hy.symm
      have bx1 : bits .xor .u8 (x : Int) 1 = (v : Int) := bx
      go_enter Tryd.func4, Tryd.ntmps4
      go_wp2_with fail
      go_region
      go_wp2_with fail
      refine (HN.out _ (((Below.refl _ _).alloc (Nat.le_refl _) _).drew)).mono ?_
      rintro e w1 ⟨g, rfl, hs1⟩
      go_wp2_with fail
      refine (HW.out _ _ _ hs1).mono ?_
      rintro e w2 ⟨rfl, hs2⟩
      go_wp2_with fail
      refine (HP.out _ _ hs2).mono ?_
      rintro e w3 ⟨rfl, hs3⟩
      go_wp2_with fail
      refine (HC.out _ _ hs3).mono ?_
      rintro e w4 ⟨rfl, hs4⟩
      go_wp2_with fail
      refine (HPr.out _ _ hs4).mono ?_
      rintro e w5 ⟨rfl, hs5⟩
      go_wp2_with fail
      refine (D1.out _ _ hs5).mono ?_
      rintro e w6 ⟨rfl, hs6⟩
      obtain ⟨u, cm, hcv, hub, hum⟩ := conv_m p w6 (by rw [hps]; decide)
      have hsu := hs6.below (T.res g _) hub
      have hls : r < (nb p).length := by rw [nb_length, hps]; exact hr32
      have hce := hum.cell hx
      have hfz := hum.frozen hls
      have hur := hum.set hls v
      rw [hps] at hcv
      have hltu : w6.heap.size < u.heap.size := hum.lt
      have hst := str_rowM hur hLb (by rw [List.length_set, nb_length, hps] : _ = 32)
      rw [hq] at hst
      have hs7 : Stand (T.I g [(n, k)]) w (u.setCell ⟨w6.heap.size, r, none⟩ (.int .u8 (v : Int))) [] := hs6.below (T.res g _) (hub.setCell (p := ⟨w6.heap.size, r, none⟩) (Nat.le_refl _) _)
      have hrp : (r : Int) ≤ (p.size : Int) := by omega
      go_wp2_with fail
      refine (D2.out _ q _ hqp (by omega) hs7).mono ?_
      rintro e w8 ⟨rfl, hs8⟩
      go_wp2_with fail
      refine (D2.out _ _ _ hpe (by rw [hpz]; omega) hs8).mono ?_
      rintro e w9 ⟨rfl, hs9⟩
      go_wp2_with fail
      refine (D3.out _ _ hs9).mono ?_
      rintro e w10 ⟨rfl, hs10⟩
      go_wp2_with fail
      refine (D4.out _ _ hs10).mono ?_
      rintro e w11 ⟨rfl, hs11⟩
      go_wp2_with fail
      go_ret
      exact ⟨rfl, hs11.base⟩
    · obtain rfl : b = y := by rw [← hy, if_neg hb0]
      have hbI : ((b : Int) == 0) = false := by simp; omega
      go_enter Tryd.func4, Tryd.ntmps4
      go_wp2_with fail
      go_region
      go_wp2_with fail
      refine (HN.out _ (((Below.refl _ _).alloc (Nat.le_refl _) _).drew)).mono ?_
      rintro e w1 ⟨g, rfl, hs1⟩
      go_wp2_with fail
      refine (HW.out _ _ _ hs1).mono ?_
      rintro e w2 ⟨rfl, hs2⟩
      go_wp2_with fail
      refine (HP.out _ _ hs2).mono ?_
      rintro e w3 ⟨rfl, hs3⟩
      go_wp2_with fail
      refine (HC.out _ _ hs3).mono ?_
      rintro e w4 ⟨rfl, hs4⟩
      go_wp2_with fail
      refine (HPr.out _ _ hs4).mono ?_
      rintro e w5 ⟨rfl, hs5⟩
      go_wp2_with fail
      refine (D1.out _ _ hs5).mono ?_
      rintro e w6 ⟨rfl, hs6⟩
      obtain ⟨u, cm, hcv, hub, hum⟩ := conv_m p w6 (by rw [hps]; decide)
      have hsu := hs6.below (T.res g _) hub
      have hls : r < (nb p).length := by rw [nb_length, hps]; exact hr32
      have hce := hum.cell hx
      have hfz := hum.frozen hls
      have hur := hum.set hls v
      rw [hps] at hcv
      have hltu : w6.heap.size < u.heap.size := hum.lt
      have hst := str_rowM hur hLb (by rw [List.length_set, nb_length, hps] : _ = 32)
      rw [hq] at hst
      have hs7 : Stand (T.I g [(n, k)]) w (u.setCell ⟨w6.heap.size, r, none⟩ (.int .u8 (v : Int))) [] := hs6.below (T.res g _) (hub.setCell (p := ⟨w6.heap.size, r, none⟩) (Nat.le_refl _) _)
      have hrp : (r : Int) ≤ (p.size : Int) := by omega
      go_wp2_with fail
      refine (D2.out _ q _ hqp (by omega) hs7).mono ?_
      rintro e w8 ⟨rfl, hs8⟩
      go_wp2_with fail
      refine (D2.out _ _ _ hpe (by rw [hpz]; omega) hs8).mono ?_
      rintro e w9 ⟨rfl, hs9⟩
      go_wp2_with fail
      refine (D3.out _ _ hs9).mono ?_
      rintro e w10 ⟨rfl, hs10⟩
      go_wp2_with fail
      refine (D4.out _ _ hs10).mono ?_
      rintro e w11 ⟨rfl, hs11⟩
      go_wp2_with fail
      go_ret
      exact ⟨rfl, hs11.base⟩
  · have hEI : ((E : Int) != 0) = true := by simp; exact h0
    rw [hE] at HP
    clear hE
    go_enter Tryd.func4, Tryd.ntmps4
    go_wp2_with fail
    go_region
    go_wp2_with fail
    refine (HN.out _ (((Below.refl _ _).alloc (Nat.le_refl _) _).drew)).mono ?_
    rintro e w1 ⟨g, rfl, hs1⟩
    go_wp2_with fail
    refine (HW.out _ _ _ hs1).mono ?_
    rintro e w2 ⟨rfl, hs2⟩
    go_wp2_with fail
    refine (HP.out _ _ hs2).mono ?_
    rintro e w3 ⟨rfl, hs3⟩
    go_wp2_with fail
    go_ret
    exact ⟨rfl, hs3.base⟩
end LetsL
end Go.Proofs.YtibglhlhogfdnaaDoor
