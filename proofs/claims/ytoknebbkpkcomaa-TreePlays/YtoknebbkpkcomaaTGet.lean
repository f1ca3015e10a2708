/- The program's Put, Get and Take, whole. -/
import Derived.Test.YtoknebbkpkcomaaTPutJ
namespace Go.Proofs.Ytoknebbkpkcomaa
open Go.RowKit

def enSn (s : Sn) : List Value := [.int .i64 s.1, .int .i64 s.2.1, .int .i64 s.2.2]
abbrev snO (s : Sn) : Obj := .cells #[.int .i64 s.1, .int .i64 s.2.1, .int .i64 s.2.2] 73 (0, 0)

section
variable {w w' : World} {t b m c a : Nat} {T : Tr} {F : Nat → Prop} {k : ByteArray} {A B : List Lf} {l : Lf}

theorem tput_to {v was e : Int} {there : Bool} {K' : List Kv} (hp : PutK T.ks k v K' was there e) (h : TreeI t T a w F) (hv : Num v) (hage : a ≤ 50000) :
    Calls Try.prog 17 #[.pointer (some ⟨t, 0, none⟩), .string k, .int .i64 v] w (PutR t T a K' F w was there e) := by
  have hO := h.ok
  obtain ⟨A, l, B, hc⟩ := cut_ex hO.ok k
  rcases hp with ⟨h1, rfl, rfl, rfl, rfl⟩ | ⟨h1, h2, rfl, rfl, rfl⟩ | ⟨h1, h2, h3, rfl, rfl, rfl, rfl⟩ | ⟨h1, h2, h3, rfl, rfl, rfl, rfl⟩
  · exact tput_long h h1 v
  · obtain ⟨i, hi⟩ := getK_idx hO.ok hc h2
    exact tput_there h hc hi hv
  · exact tput_full h hc h2 h1 h3 v
  · by_cases hf : l.n.ks.length = 15
    · exact tput_split h hc h2 h1 h3 hf hv hage
    · exact tput_new h hc h2 h1 h3 (by have := (hO.ok.okn l hc.mem).few; omega) hv hage

def GetR (T : Tr) (w : World) (k : ByteArray) (v : Int) (b : Bool) (x : Ending) (w' : World) : Prop :=
  ∃ sb l, x = .returned (.tuple #[.int .i64 v, .bool b, .slice (some ⟨sb, 0, none⟩) 1 1]) ∧ w'.heap[sb]? = some (snO (sn l)) ∧ w.heap.size ≤ sb ∧ Below w.heap.size w w' ∧ l ∈ T.ls ∧ InR (lst T.ls) k l.least

set_option maxRecDepth 100000 in
set_option maxHeartbeats 400000 in
theorem tget_to {v : Int} {bb : Bool} (hp : GetK T.ks k v bb) (h : TreeI t T a w F) :
    Calls Try.prog 22 #[.pointer (some ⟨t, 0, none⟩), .string k] w (GetR T w k v bb) := by
  obtain ⟨b, m, c, hG, hO, hF⟩ := h
  obtain ⟨A, l, B, hc⟩ := cut_ex hO.ok k
  have hU : ∀ u, Below w.heap.size w u → TreeG u t b m c T.ls T.made (T.ks.length : Int) := fun u hb => hG.turn (Turn.ofBelow (fun _ => False) hb) (fun _ _ h => h)
  have HF : Hid (∀ u, Below w.heap.size w u → Calls Try.prog 33 #[.pointer (some ⟨t, 0, none⟩), .string k] u fun e w' => e = .returned (.int .i64 (A.length : Int)) ∧ Below u.heap.size u w') := fun u hb => tfind_any (hU u hb) hc
  have HL : Hid (∀ u, Below w.heap.size w u → Look u t b c T.ls.length l.q l.g A.length) := fun u hb => (hU u hb).look hc
  have HG : Hid (∀ u, Below w.heap.size w u → Calls Try.prog 34 #[.pointer (some ⟨l.g, 0, none⟩), .string k] u fun e w' => e = .returned (.tuple #[.int .i64 v, .bool bb]) ∧ ∃ m, w' = u.drewN m) := fun u hb => by
    rcases hp with ⟨h1, rfl, rfl⟩ | ⟨h1, rfl⟩
    · exact get_no ((hU u hb).nodeI hc.mem) (getK_not hO.ok hc h1)
    · obtain ⟨i, hi⟩ := getK_idx hO.ok hc h1
      exact get_yes ((hU u hb).nodeI hc.mem) hi
  have HS : Hid (∀ u, Below w.heap.size w u → Calls Try.prog 31 #[.pointer (some ⟨l.q, 0, none⟩)] u fun e w' => e = .returned (snV (sn l)) ∧ Below u.heap.size u w') := fun u hb => seen_any (hU u hb) hc.mem
  have HR : Hid (∀ u, Below w.heap.size w u → GetR T w k v bb (.returned (.tuple #[.int .i64 v, .bool bb, .slice (some ⟨u.heap.size, 0, none⟩) 1 1])) (u.alloc (snO (sn l)))) := fun u hb =>
    ⟨u.heap.size, l, rfl, heap_new u _, hb.size, hb.trans (((Below.refl _ _).alloc (Nat.le_refl _) _).mono hb.size), hc.mem, hc.inR hO.ok⟩
  have hbg := hG.big
  have hal := hc.lt
  obtain ⟨N, hN⟩ : ∃ N, T.ls.length = N := ⟨_, rfl⟩
  obtain ⟨x, hx⟩ : ∃ x, A.length = x := ⟨_, rfl⟩
  obtain ⟨lq, hlq⟩ : ∃ lq, l.q = lq := ⟨_, rfl⟩
  obtain ⟨lg, hlg⟩ : ∃ lg, l.g = lg := ⟨_, rfl⟩
  obtain ⟨⟨s1, s2, s3⟩, hs⟩ : ∃ s : Sn, sn l = s := ⟨_, rfl⟩
  rw [hN] at HL hbg hal
  rw [hx] at HF HL hal
  rw [hlq] at HL HS
  rw [hlg] at HL HG
  rw [hs] at HS HR
  obtain ⟨g1, g2, g3⟩ := hbg
  obtain ⟨q0, q1, q2⟩ := HL.out w (Below.refl _ _)
  clear hU hG hO hF hc hp hN hx hlq hlg hs
  go_enter Try.func22, Try.ntmps22
  go_wp2_with fail
  go_region_with (go_at_call 33; go_must (refine (HF.out _ (below_drewN w _)).mono ?_; rintro e w1 ⟨rfl, hb1⟩; have HB1 : Hid (Below w.heap.size w w1) := (below_drewN w _).trans hb1; obtain ⟨r0, r1, r2⟩ := HL.out w1 HB1.out; clear hb1))
  all_goals go_wp2_with (first | (go_at_call 34; go_must (refine (HG.out _ HB1.out).mono ?_; rintro e w2 ⟨rfl, m2, rfl⟩)) | (go_at_call 31; go_must (refine (HS.out _ (HB1.out.trans ((below_drewN w1 _).mono HB1.out.size))).mono ?_; rintro e w3 ⟨rfl, hb3⟩; have HB3 : Hid (Below w.heap.size w w3) := (HB1.out.trans ((below_drewN w1 _).mono HB1.out.size)).trans (hb3.mono HB1.out.size); clear hb3)))
  all_goals go_ret3
  all_goals exact HR.out _ HB3.out
end

end Go.Proofs.Ytoknebbkpkcomaa
