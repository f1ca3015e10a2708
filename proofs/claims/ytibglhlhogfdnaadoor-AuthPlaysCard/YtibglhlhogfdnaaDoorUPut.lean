/- The program's Put and Take. -/
import Derived.Test.YtibglhlhogfdnaaDoorUName
import Derived.Test.YtibglhlhogfdnaaDoorFClone
namespace Go.Proofs.YtibglhlhogfdnaaDoor
open Go.RowKit Go.Maps QP AP

section
variable {w : World} {F : Nat → Prop} {g m : Nat} {K : List Kv}
theorem keyGoes (hG : KeyG w g m K) (hF : ∀ i, F i ↔ i = g ∨ i = m) {u : World} (hu : Below w.heap.size w u) : Goes (KeyI g K) w u F :=
  ⟨F, ⟨m, hG.kept fun i hi => hu.block i (hG.lt hi), hF⟩, Turn.ofBelow _ hu, fun _ hi => Or.inl hi⟩
theorem keyGoes' (hF : ∀ i, F i ↔ i = g ∨ i = m) {K' : List Kv} {u v : World} (hu : Below w.heap.size w u) (hv : KeyG v g m K') (ht : Turn (fun i => i = m) u v) : Goes (KeyI g K') w v F :=
  ⟨F, ⟨m, hv, hF⟩, (Turn.ofBelow F hu).trans (ht.mono fun i hi => (hF i).2 (Or.inr hi)), fun _ hi => Or.inl hi⟩
end
theorem bAl {w : World} (o : Obj) : Below w.heap.size w (w.alloc o) := (Below.refl _ _).alloc (Nat.le_refl _) o

set_option maxRecDepth 100000 in
set_option maxHeartbeats 2000000 in
theorem put_auth (g : Nat) (K : List Kv) (n k : ByteArray) (w : World) (F : Nat → Prop) (h : KeyI g K w F) (hn : n.size ≤ 140737488355328) (hk : k.size ≤ 140737488355328) :
    Calls Tryd.prog 12 #[.pointer (some ⟨g, 0, none⟩), .string n, .string k] w fun e w' => e = .returned (.int .i64 (putE K n k)) ∧ Goes (KeyI g (putK K n k)) w w' F := by
  obtain ⟨m, hG, hF⟩ := h
  have c0 : w.cell? ⟨g, 0, none⟩ = some (.map (some m)) := by rw [cell_of hG.top]; rfl
  have HM : Hid (∀ u, Calls Tryd.prog 26 #[.string n] u fun e w' => e = .returned (.bool (nameOk n)) ∧ u = w') := fun u => (nameMayBe_any n u (by omega)).mono fun _ _ h => ⟨h.1, h.2.symm⟩
  have HG0 : Hid (∀ u, Below w.heap.size w u → putE K n k ≠ 0 → Goes (KeyI g (putK K n k)) w u F) := fun u hu hp => by rw [putK_no hp]; exact keyGoes hG hF hu
  by_cases hm : nameOk n = false
  · have HE : Hid (putE K n k = 10) := by show _ = _; unfold putE; rw [if_pos hm]
    rw [hm] at HM
    clear hG hF
    go_enter Tryd.func12, Tryd.ntmps12
    go_wp2_with (go_at_call 26; go_must (refine (HM.out _).mono ?_; rintro e w1 ⟨rfl, rfl⟩))
    go_ret
    exact ⟨by rw [HE.out]; rfl, HG0.out _ (Below.refl _ _) (by rw [HE.out]; decide)⟩
  · have hm' : nameOk n = true := by simpa using hm
    have hn32 := (nameOk_size hm').2
    obtain ⟨v0, hv0⟩ : ∃ v0, (getK n K).getD ⟨#[]⟩ = v0 := ⟨_, rfl⟩
    obtain ⟨N, hN⟩ : ∃ N, K.length = N := ⟨_, rfl⟩
    have hlk : ∀ b, (getK n K).isSome = b → (Instr.lookup 52 (.map (some m)) (.string n) true).run Tryd.prog w = .ok (.tuple #[.agg #[.string v0], .bool b]) w := fun b hb => by
      have := hG.look n (by unfold maxLen; omega)
      rw [hv0, hb] at this
      exact this
    have hX : KeyG (w.alloc (.cells #[.string v0] 60)) g m K := hG.kept fun i hi => (bAl _).block i (hG.lt hi)
    have cX : (w.alloc (.cells #[.string v0] 60)).cell? ⟨g, 0, none⟩ = some (.map (some m)) := by rw [cell_of hX.top]; rfl
    have lX : ∀ ty, (Builtin.len_ #[52] ty #[.map (some m)]).run Tryd.prog (w.alloc (.cells #[.string v0] 60)) = .ok (.int .i64 (N : Int)) (w.alloc (.cells #[.string v0] 60)) := fun ty => by
      rw [← hN]; exact hX.len ty
    rw [hm'] at HM
    by_cases hz : k.size < 1 ∨ 64 < k.size ∨ (getK n K = none ∧ 4096 ≤ K.length)
    · have HE : Hid (putE K n k = 2) := by show _ = _; unfold putE; rw [if_neg hm, if_pos hz]
      have HR : Hid (Goes (KeyI g (putK K n k)) w (w.alloc (.cells #[.string v0] 60)) F) := HG0.out _ (bAl _) (by rw [HE.out]; decide)
      by_cases h1 : k.size < 1
      · have hI : (k.size : Int) < 1 := by omega
        obtain ⟨b, hb⟩ : ∃ b, (getK n K).isSome = b := ⟨_, rfl⟩
        have hl := hlk b hb
        clear hlk hb hz hG hF hX HG0
        cases b
        all_goals
          go_enter Tryd.func12, Tryd.ntmps12
          go_wp2_with (go_at_call 26; go_must (refine (HM.out _).mono ?_; rintro e w1 ⟨rfl, rfl⟩))
          go_ret
          exact ⟨by rw [HE.out]; rfl, HR.out⟩
      · have hI : ¬ (k.size : Int) < 1 := by omega
        by_cases h2 : 64 < k.size
        · have hI2 : (64 : Int) < (k.size : Int) := by omega
          obtain ⟨b, hb⟩ : ∃ b, (getK n K).isSome = b := ⟨_, rfl⟩
          have hl := hlk b hb
          clear hlk hb hz hG hF hX HG0
          cases b
          all_goals
            go_enter Tryd.func12, Tryd.ntmps12
            go_wp2_with (go_at_call 26; go_must (refine (HM.out _).mono ?_; rintro e w1 ⟨rfl, rfl⟩))
            go_ret
            exact ⟨by rw [HE.out]; rfl, HR.out⟩
        · have hI2 : ¬ (64 : Int) < (k.size : Int) := by omega
          obtain ⟨h3, h4⟩ : getK n K = none ∧ 4096 ≤ K.length := by
            rcases hz with h | h | h
            · exact absurd h h1
            · exact absurd h h2
            · exact h
          have hl := hlk false (by rw [h3]; rfl)
          have hI3 : (4096 : Int) ≤ (N : Int) := by omega
          clear hlk hz hG hF hX HG0
          go_enter Tryd.func12, Tryd.ntmps12
          go_wp2_with (go_at_call 26; go_must (refine (HM.out _).mono ?_; rintro e w1 ⟨rfl, rfl⟩))
          go_ret
          exact ⟨by rw [HE.out]; rfl, HR.out⟩
    · have HE : Hid (putE K n k = 0) := by show _ = _; unfold putE; rw [if_neg hm, if_neg hz]
      have hI : ¬ (k.size : Int) < 1 := by omega
      have hI2 : ¬ (64 : Int) < (k.size : Int) := by omega
      have hk64 : k.size ≤ 64 := by omega
      have hfew : getK n K = none → K.length < 4096 := fun e => by
        rcases Nat.lt_or_ge K.length 4096 with h | h
        · exact h
        · exact absurd (Or.inr (Or.inr ⟨e, h⟩)) hz
      have HC : Hid (∀ (s : ByteArray) (u : World), s.size ≤ 64 → Calls Tryd.prog 27 #[.string s] u fun e w' => e = .returned (.string s) ∧ Below u.heap.size u w') := fun s u hs => sClone_any s u (by omega)
      have HP : Hid (∀ u, Below w.heap.size w u → u.cell? ⟨g, 0, none⟩ = some (.map (some m)) ∧ ∃ v, (Instr.mapUpdate 52 (.map (some m)) (.string n) (.agg #[.string k])).run Tryd.prog u = .ok () v ∧ Hid (Goes (KeyI g (putK K n k)) w v F)) := fun u hu => by
        have hGu : KeyG u g m K := hG.kept fun i hi => hu.block i (hG.lt hi)
        obtain ⟨v, k1, k2, k3⟩ := hGu.put n k (by omega) hk64 hfew
        refine ⟨by rw [cell_of hGu.top]; rfl, v, k1, ?_⟩
        show Goes _ _ _ _
        rw [putK_ok HE.out]
        exact keyGoes' hF hu k2 k3
      have HB1 : Hid (Below w.heap.size w (w.alloc (.cells #[.string v0] 60))) := bAl _
      have hnk : n.size ≤ 64 := by omega
      have HNK : Hid (n.size ≤ 64 ∧ k.size ≤ 64) := ⟨hnk, hk64⟩
      obtain ⟨b, hb⟩ : ∃ b, (getK n K).isSome = b := ⟨_, rfl⟩
      have hl := hlk b hb
      have hI3 : b = false → ¬ (4096 : Int) ≤ (N : Int) := fun e => by
        have := hfew (by rw [e] at hb; simpa using hb)
        omega
      clear hlk hb hz hG hF hX HG0 hfew hnk hm hm' hn32
      cases b
      · have hI4 := hI3 rfl
        clear hI3
        go_enter Tryd.func12, Tryd.ntmps12
        go_wp2_with (go_at_call 26; go_must (refine (HM.out _).mono ?_; rintro e w1 ⟨rfl, rfl⟩))
        go_region_with (go_at_call 27; go_must (refine (HC.out _ _ (by first | exact HNK.out.1 | exact HNK.out.2)).mono ?_; rintro e w3 ⟨rfl, hb3⟩; first | (have HBy : Hid (Below w.heap.size w w3) := HBz.out.trans (hb3.mono HBz.out.size); obtain ⟨q0, v3, q1, HGo3⟩ := HP.out w3 HBy.out) | (have HBz : Hid (Below w.heap.size w w3) := HB1.out.trans (((below_drewN _ _).trans hb3).mono HB1.out.size); have q0 := (HP.out w3 HBz.out).1)))
        all_goals (
          go_wp2
          go_ret
          exact ⟨by rw [HE.out]; rfl, HGo3.out⟩)
      · clear hI3
        go_enter Tryd.func12, Tryd.ntmps12
        go_wp2_with (go_at_call 26; go_must (refine (HM.out _).mono ?_; rintro e w1 ⟨rfl, rfl⟩))
        go_region_with (go_at_call 27; go_must (refine (HC.out _ _ (by first | exact HNK.out.1 | exact HNK.out.2)).mono ?_; rintro e w3 ⟨rfl, hb3⟩; first | (have HBy : Hid (Below w.heap.size w w3) := HBz.out.trans (hb3.mono HBz.out.size); obtain ⟨q0, v3, q1, HGo3⟩ := HP.out w3 HBy.out) | (have HBz : Hid (Below w.heap.size w w3) := HB1.out.trans (((below_drewN _ _).trans hb3).mono HB1.out.size); have q0 := (HP.out w3 HBz.out).1)))
        all_goals (
          go_wp2
          go_ret
          exact ⟨by rw [HE.out]; rfl, HGo3.out⟩)

set_option maxRecDepth 100000 in
set_option maxHeartbeats 1000000 in
theorem take_auth (g : Nat) (K : List Kv) (n : ByteArray) (w : World) (F : Nat → Prop) (h : KeyI g K w F) (hn : n.size ≤ 140737488355328) :
    Calls Tryd.prog 14 #[.pointer (some ⟨g, 0, none⟩), .string n] w fun e w' => e = .returned (.int .i64 (takeE K n)) ∧ Goes (KeyI g (delK n K)) w w' F := by
  obtain ⟨m, hG, hF⟩ := h
  have c0 : w.cell? ⟨g, 0, none⟩ = some (.map (some m)) := by rw [cell_of hG.top]; rfl
  obtain ⟨v0, hv0⟩ : ∃ v0, (getK n K).getD ⟨#[]⟩ = v0 := ⟨_, rfl⟩
  have hl := hG.look n (by unfold maxLen; omega)
  rw [hv0] at hl
  have hX : KeyG (w.alloc (.cells #[.string v0] 60)) g m K := hG.kept fun i hi => (bAl _).block i (hG.lt hi)
  have cX : (w.alloc (.cells #[.string v0] 60)).cell? ⟨g, 0, none⟩ = some (.map (some m)) := by rw [cell_of hX.top]; rfl
  cases hg : getK n K with
  | none =>
    rw [hg] at hl
    have hl' : (Instr.lookup 52 (.map (some m)) (.string n) true).run Tryd.prog w = .ok (.tuple #[.agg #[.string v0], .bool false]) w := hl
    have HE : Hid (takeE K n = 5) := by show _ = _; unfold takeE; rw [if_pos hg]
    have HGo : Hid (Goes (KeyI g (delK n K)) w (w.alloc (.cells #[.string v0] 60)) F) := by
      have e : delK n K = K := List.filter_eq_self.2 fun p hp => by simpa using getK_none.1 hg p hp
      show Goes _ _ _ _
      rw [e]
      exact keyGoes hG hF (bAl _)
    clear hG hF hX hg hl
    go_enter Tryd.func14, Tryd.ntmps14
    go_wp2
    go_ret
    exact ⟨by rw [HE.out]; rfl, HGo.out⟩
  | some x =>
    rw [hg] at hl
    have hl' : (Instr.lookup 52 (.map (some m)) (.string n) true).run Tryd.prog w = .ok (.tuple #[.agg #[.string v0], .bool true]) w := hl
    have HE : Hid (takeE K n = 0) := by show _ = _; unfold takeE; rw [if_neg (by rw [hg]; exact fun h => by cases h)]
    obtain ⟨v, hrun, k2, k3⟩ := hX.del n (by unfold maxLen; omega) 0
    have HGo : Hid (Goes (KeyI g (delK n K)) w v F) := keyGoes' hF (bAl _) k2 k3
    clear hG hF hX hg hl k2 k3
    go_enter Tryd.func14, Tryd.ntmps14
    go_wp2
    go_ret
    exact ⟨by rw [HE.out]; rfl, HGo.out⟩
end Go.Proofs.YtibglhlhogfdnaaDoor
