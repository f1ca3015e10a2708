/- The reference: where it lies in memory; New, wrong, Dial. -/
import Derived.Test.YthfmppghdlniiaaSDial
import Derived.Test.YthfmppghdlniiaaFlat
namespace Go.Proofs.Ythfmppghdlniiaa
open Go.RowKit

/-- a direction of the reference: all that was written, how much arrived, how much was read -/
structure Wy where
  all : ByteArray
  came : Nat
  taken : Nat
  shut : Bool

namespace Wy
def en (x : Wy) : List Value := [.string x.all, .int .i64 (x.came : Int), .int .i64 (x.taken : Int), .bool x.shut]
theorem en_len (x : Wy) : x.en.length = 4 := rfl
def fresh : Wy := ⟨⟨#[]⟩, 0, 0, false⟩
def dr (x : Wy) : Dr := ⟨x.all.data.toList.drop x.taken, x.came - x.taken, x.shut⟩
structure Ok (x : Wy) : Prop where
  taken : x.taken ≤ x.came
  came : x.came ≤ x.all.size
theorem Ok.fresh : Ok fresh := ⟨Nat.le_refl _, Nat.le_refl _⟩
theorem dr_len (x : Wy) : x.dr.q.length = x.all.size - x.taken := by unfold dr; rw [List.length_drop]; rfl
end Wy

structure RefG (w : World) (r : Nat) (v : Value) (K : Nat) (R : List Wy) : Prop where
  top : w.heap[r]? = some (.cells #[v] 56 (0, 0))
  row : w.ownsRow 0 69 8 v K (flat Wy.en R)
  two : R.length = 2 * K
  few : K ≤ 64
  ok : ∀ x ∈ R, x.Ok

def rfoot (r : Nat) (v : Value) (i : Nat) : Prop := i = r ∨ v.ownBlock = some i
def RefI (r : Nat) (R : List Wy) (w : World) (F : Nat → Prop) : Prop := ∃ v K, RefG w r v K R ∧ ∀ i, F i ↔ rfoot r v i

section
variable {w w' : World} {r : Nat} {v : Value} {K : Nat} {R : List Wy} {F : Nat → Prop}

theorem RefG.lt (h : RefG w r v K R) {i : Nat} (hi : rfoot r v i) : i < w.heap.size := by
  rcases hi with rfl | hi
  · exact lt_of h.top
  · obtain ⟨cur, hc, _⟩ := ownsRow_own h.row hi
    exact lt_of hc
theorem RefG.r_row (h : RefG w r v K R) {g : Nat} (hv : v.ownBlock = some g) : r ≠ g := by
  intro e
  obtain ⟨cur, hc, _⟩ := ownsRow_own h.row hv
  rw [← e, h.top] at hc
  simp at hc
theorem RefG.kept (h : RefG w r v K R) {S : Nat → Prop} (ht : Turn S w w') (hS : ∀ i, rfoot r v i → ¬ S i) : RefG w' r v K R := by
  have e : ∀ i, rfoot r v i → w'.heap[i]? = w.heap[i]? := fun i hi => ht.block i (h.lt hi) (hS i hi)
  exact ⟨(e r (Or.inl rfl)).trans h.top, ownsRow_block h.row (fun g hg => e g (Or.inr hg)), h.two, h.few, h.ok⟩
theorem refI_res (r : Nat) (R : List Wy) : Res (RefI r R) := by
  refine ⟨fun {w F} h i hi => ?_, fun {w w' F S} h ht hS => ?_⟩
  · obtain ⟨v, K, hG, hF⟩ := h
    exact hG.lt ((hF i).1 hi)
  · obtain ⟨v, K, hG, hF⟩ := h
    exact ⟨v, K, hG.kept ht (fun i hi => hS i ((hF i).2 hi)), hF⟩
theorem RefG.rowAt (h : RefG w r v K R) (hK : 0 < K) : ∃ g cap cur, v = .slice (some ⟨g, 0, none⟩) K cap ∧ w.heap[g]? = some (.cells cur 69 (0, 0)) ∧ K ≤ cap ∧ cap ≤ maxLen ∧ cur.size = cap * 8 ∧ cur.toList.take (K * 8) = flat Wy.en R := by
  rcases h.row.2 with ⟨_, h0⟩ | ⟨g, cap, cur, hv, _, hg, h1, h2, h3, h4⟩
  · omega
  · exact ⟨g, cap, cur, hv, hg, h1, h2, h3, h4⟩
theorem RefG.shape (h : RefG w r v K R) : ∃ a cap, v = .slice a K cap := by
  rcases h.row.2 with ⟨rfl, rfl⟩ | ⟨g, cap, cur, hv, _⟩
  · exact ⟨none, 0, rfl⟩
  · exact ⟨_, _, hv⟩
theorem RefG.c0 (h : RefG w r v K R) : w.cell? ⟨r, 0, none⟩ = some v := by rw [cell_of h.top]; rfl

/-- an element's cells -/
theorem RefG.cells {g cap : Nat} (h : RefG w r (.slice (some ⟨g, 0, none⟩) K cap) K R) {i : Nat} (hi : i < R.length) {o : Nat} (ho : o = 4 * i) :
    w.cell? ⟨g, o, none⟩ = some (.string (R[i]).all) ∧ w.cell? ⟨g, o + 1, none⟩ = some (.int .i64 ((R[i]).came : Int)) ∧ w.cell? ⟨g, o + 2, none⟩ = some (.int .i64 ((R[i]).taken : Int)) ∧ w.cell? ⟨g, o + 3, none⟩ = some (.bool (R[i]).shut) ∧
      ∀ f, w.frozen? ⟨g, f, none⟩ = false := by
  have h2 := h.two
  obtain ⟨g', cap', cur, hv, hg, h3, h4, h5, h6⟩ := h.rowAt (by omega)
  cases hv
  have key : ∀ f, f < 4 → w.cell? ⟨g, o + f, none⟩ = (Wy.en R[i])[f]? := fun f hf => by
    rw [cell_of hg, ho, ← flat_get Wy.en_len R i hi f hf, ← h6, List.getElem?_take_of_lt (by omega)]
    simp
  exact ⟨key 0 (by omega), key 1 (by omega), key 2 (by omega), key 3 (by omega), fun f => frozen_of hg _⟩

/-- one element has become another one -/
theorem RefG.goesSet {g cap : Nat} (h : RefG w r (.slice (some ⟨g, 0, none⟩) K cap) K R) (hF : ∀ j, F j ↔ rfoot r (.slice (some ⟨g, 0, none⟩) K cap) j) {i : Nat} (hi : i < R.length) {d : Wy} (ht : Turn (fun j => j = g) w w')
    (hc : ∃ cur, w'.heap[g]? = some (.cells cur 69 (0, 0)) ∧ cur.size = cap * 8 ∧ cur.toList.take (K * 8) = flat Wy.en (R.set i d)) (hok : d.Ok) : Goes (RefI r (R.set i d)) w w' F := by
  have h2 := h.two
  obtain ⟨g', cap', cur0, hv, hg, h3, h4, h5, h6⟩ := h.rowAt (by omega)
  cases hv
  obtain ⟨cur, hc1, hc2, hc3⟩ := hc
  refine ⟨F, ⟨_, K, ⟨?_, ⟨?_, Or.inr ⟨g, cap, cur, rfl, Nat.zero_le _, hc1, h3, h4, hc2, hc3⟩⟩, ?_, h.few, fun x hx => ?_⟩, hF⟩, ht.mono (fun j hj => (hF j).2 (Or.inr (by rw [hj]; rfl))), fun j hj => Or.inl hj⟩
  · exact (ht.block r (lt_of h.top) (fun e => h.r_row rfl e)).trans h.top
  · rw [flat_length Wy.en_len, List.length_set, h.two]; omega
  · rw [List.length_set]; exact h.two
  · rcases List.mem_or_eq_of_mem_set hx with hx' | rfl
    · exact h.ok x hx'
    · exact hok
end

theorem rnew_any (w : World) : Calls Try.prog 9 #[] w fun e w' => e = .returned (.pointer (some ⟨w.heap.size, 0, none⟩)) ∧ RefI w.heap.size [] w' (fun i => i = w.heap.size) ∧ Below w.heap.size w w' := by
  go_enter Try.func9, Try.ntmps9
  go_wp2
  go_ret
  refine ⟨rfl, ⟨_, 0, ⟨heap_new w _, World.ownsRow_nil _ _ _ _, rfl, by omega, by simp⟩, fun i => ⟨fun h => Or.inl h, fun h => ?_⟩⟩, (Below.refl _ _).alloc (Nat.le_refl _) _⟩
  rcases h with h | h
  · exact h
  · cases h

section
variable {r : Nat} {R : List Wy} {F : Nat → Prop}

def rbadE (n : Nat) (c d : Int) : Int := if c < 0 ∨ (n : Int) ≤ 2 * c then 5 else if d = 0 ∨ d = 1 then 0 else 1

set_option maxHeartbeats 400000 in
theorem wrong_any (c d : Int) (w : World) (hI : RefI r R w F) :
    Calls Try.prog 30 #[.pointer (some ⟨r, 0, none⟩), .int .i64 c, .int .i64 d] w fun e w' => e = .returned (.int .i64 (rbadE R.length c d)) ∧ w = w' := by
  obtain ⟨v, K, hG, hF⟩ := hI
  have h2 := hG.two
  have c0 := hG.c0
  have hf := hG.few
  obtain ⟨a, cap, rfl⟩ := hG.shape
  clear hG hF
  unfold rbadE
  by_cases h1 : c < 0
  · rw [if_pos (Or.inl h1)]
    clear h2
    go_enter Try.func30, Try.ntmps30
    go_wp2
    go_ret
    exact ⟨rfl, rfl⟩
  · by_cases h3 : (K : Int) ≤ c
    · rw [if_pos (Or.inr (by omega))]
      clear h2
      go_enter Try.func30, Try.ntmps30
      go_wp2
      go_ret
      exact ⟨rfl, rfl⟩
    · rw [if_neg (by omega)]
      clear h2
      by_cases h4 : d < 0
      · rw [if_neg (by omega)]
        go_enter Try.func30, Try.ntmps30
        go_wp2
        go_ret
        exact ⟨rfl, rfl⟩
      · by_cases h5 : 1 < d
        · rw [if_neg (by omega)]
          go_enter Try.func30, Try.ntmps30
          go_wp2
          go_ret
          exact ⟨rfl, rfl⟩
        · rw [if_pos (by omega)]
          go_enter Try.func30, Try.ntmps30
          go_wp2
          go_ret
          exact ⟨rfl, rfl⟩

theorem infoW : (Try.prog.info? 69).map (fun i => (i.zero, i.size, i.bytes)) = some (some (.agg #[.string ⟨#[]⟩, .int .i64 0, .int .i64 0, .bool false, .string ⟨#[]⟩, .int .i64 0, .int .i64 0, .bool false]), 8, 80) := by kernel_rfl
def wlinks : List Value := [.string ⟨#[]⟩, .int .i64 0, .int .i64 0, .bool false, .string ⟨#[]⟩, .int .i64 0, .int .i64 0, .bool false]
theorem wlinks_eq : flat Wy.en [Wy.fresh, Wy.fresh] = wlinks := rfl
theorem wlinks_one : ∀ u ∈ wlinks, u.oneCell' = true := by decide

theorem RefG.dialled {w w1 w2 : World} {v : Value} {K : Nat} (h : RefG w r v K R) (hF : ∀ j, F j ↔ rfoot r v j) (hK : K < 64) (hb : Below w.heap.size w w1) {g cap : Nat} (hown : w2.ownsRow 0 69 8 (.slice (some ⟨g, 0, none⟩) (K + 1) cap) (K + 1) (flat Wy.en R ++ wlinks)) (hgrow : w1.grownBy w2 v.ownBlock) (hat : v.ownBlock = some g ∨ w.heap.size ≤ g) :
    Goes (RefI r (R ++ [Wy.fresh, Wy.fresh])) w (w2.setCell ⟨r, 0, none⟩ (.slice (some ⟨g, 0, none⟩) (K + 1) cap)) F := by
  have ht1 : Turn (rfoot r v) w w2 := (Turn.ofBelow _ hb).trans (Turn.ofGrown hgrow (fun k hk => Or.inr hk))
  have ht : Turn (rfoot r v) w (w2.setCell ⟨r, 0, none⟩ (.slice (some ⟨g, 0, none⟩) (K + 1) cap)) := ht1.trans (Turn.setCell w2 ⟨r, 0, none⟩ _ (Or.inl rfl))
  have hnv : some r ≠ v.ownBlock := fun e => h.r_row e.symm rfl
  have hn2 : w2.heap[r]? = some (.cells #[v] 56 (0, 0)) := (hgrow.block r (Nat.lt_of_lt_of_le (lt_of h.top) hb.size) hnv).trans ((hb.block r (lt_of h.top)).trans h.top)
  have hng : r ≠ g := by
    intro e
    obtain ⟨cur, hc, _⟩ := ownsRow_own hown (g := g) rfl
    rw [← e, hn2] at hc
    simp at hc
  refine ⟨rfoot r (.slice (some ⟨g, 0, none⟩) (K + 1) cap), ⟨_, K + 1, ⟨?_, ?_, ?_, by omega, fun x hx => ?_⟩, fun _ => Iff.rfl⟩, ht.mono (fun j hj => (hF j).2 hj), fun j hj => ?_⟩
  · rw [heap_setCell_same hn2]
    simp
  · rw [flat_append, wlinks_eq]
    refine ownsRow_block hown (fun b hb' => Below.heap_setCell _ _ _ _ ?_)
    cases hb'
    exact fun e => hng e.symm
  · rw [List.length_append, h.two]
    show 2 * K + 2 = _
    omega
  · rcases List.mem_append.1 hx with hx | hx
    · exact h.ok x hx
    · have hx : x = Wy.fresh := by simpa using hx
      rw [hx]
      exact Wy.Ok.fresh
  · rcases hj with rfl | hj
    · exact Or.inl ((hF _).2 (Or.inl rfl))
    · cases hj
      rcases hat with hh | hh
      · exact Or.inl ((hF _).2 (Or.inr hh))
      · exact Or.inr hh

set_option maxHeartbeats 400000 in
theorem rdial_full (w : World) (hI : RefI r R w F) (hK : 128 ≤ R.length) :
    Calls Try.prog 20 #[.pointer (some ⟨r, 0, none⟩)] w fun e w' => e = .returned (.tuple #[.int .i64 0, .int .i64 2]) ∧ w = w' := by
  obtain ⟨v, K, hG, hF⟩ := hI
  have c0 := hG.c0
  have h2 := hG.two
  have h4 : (64 : Int) ≤ (K : Int) := by omega
  obtain ⟨a, cap, rfl⟩ := hG.shape
  clear hG hF h2 hK
  go_enter Try.func20, Try.ntmps20
  go_wp2
  go_ret2
  exact ⟨rfl, rfl⟩

set_option maxRecDepth 100000 in
set_option maxHeartbeats 400000 in
theorem rdial_ok (w : World) {K : Nat} (hI : RefI r R w F) (hs : R.length = 2 * K) (hK : K < 64) :
    Calls Try.prog 20 #[.pointer (some ⟨r, 0, none⟩)] w fun e w' => e = .returned (.tuple #[.int .i64 (K : Int), .int .i64 0]) ∧ Goes (RefI r (R ++ [Wy.fresh, Wy.fresh])) w w' F := by
  obtain ⟨v, K', hG, hF⟩ := hI
  have h2 := hG.two
  obtain rfl : K' = K := by omega
  have c0 := hG.c0
  have f0 := frozen_of hG.top 0
  obtain ⟨a, c, rfl⟩ := hG.shape
  have HG : Hid (RefG w r (.slice a K' c) K' R) := hG
  have HE : Hid (∀ (w1 w2 : World) (g cap : Nat), Below w.heap.size w w1 → w2.ownsRow 0 69 8 (.slice (some ⟨g, 0, none⟩) (K' + 1) cap) (K' + 1) (flat Wy.en R ++ wlinks) → w1.grownBy w2 (Value.slice a K' c).ownBlock → ((Value.slice a K' c).ownBlock = some g ∨ w.heap.size ≤ g) →
      Goes (RefI r (R ++ [Wy.fresh, Wy.fresh])) w (w2.setCell ⟨r, 0, none⟩ (.slice (some ⟨g, 0, none⟩) (K' + 1) cap)) F) := fun w1 w2 g cap k1 k2 k3 k4 => hG.dialled hF hK k1 k2 k3 k4
  have HN : Hid (some r ≠ (Value.slice a K' c).ownBlock ∧ r < w.heap.size) := ⟨fun e => hG.r_row e.symm rfl, lt_of hG.top⟩
  have h64 : ¬ (64 : Int) ≤ (K' : Int) := by omega
  obtain ⟨i0, hi, hz0, hz1, hz2⟩ := info_parts infoW
  clear hG hF hs h2
  go_enter Try.func20, Try.ntmps20
  go_wp2_with (at_builtin; go_must (refine wpList_append_lies _ rfl _ _ 54 rfl 0 69 i0 _ 8 80 Try.underlying54 hi hz0 hz1 hz2 rfl (by decide) _ K' (flat Wy.en R) rfl (HG.out.row.alloc _) ⟨w.heap.size, 0, none⟩ 1 1 wlinks rfl rfl ?q1 ?q2 (by omega) ?q3 ?q4 (by simp) (w.heap.size + 1) ?q5 ?_))
  case q1 => exact fun j u hu => hu
  case q2 => exact wlinks_one
  case q3 => unfold maxLen; omega
  case q4 => omega
  intro g cap w2 r1 r2 r3 r4
  have hb : Below w.heap.size w (w.alloc (.cells #[.string ⟨#[]⟩, .int .i64 0, .int .i64 0, .bool false, .string ⟨#[]⟩, .int .i64 0, .int .i64 0, .bool false] 69 (0, 0))) := (Below.refl _ _).alloc (Nat.le_refl _) _
  have HE2 : Hid (Goes (RefI r (R ++ [Wy.fresh, Wy.fresh])) w (w2.setCell ⟨r, 0, none⟩ (.slice (some ⟨g, 0, none⟩) (K' + 1) cap)) F) := HE.out _ w2 g cap hb r1 r2 (by
    rcases r3 with r3 | r3
    · exact Or.inl r3
    · exact Or.inr (by omega))
  have hn1 : r < (w.alloc (.cells #[.string ⟨#[]⟩, .int .i64 0, .int .i64 0, .bool false, .string ⟨#[]⟩, .int .i64 0, .int .i64 0, .bool false] 69 (0, 0))).heap.size := by simp; have := HN.out.2; omega
  have hbn : w2.heap[r]? = w.heap[r]? := (r2.block r hn1 HN.out.1).trans (hb.block r HN.out.2)
  have c1 : w2.cell? ⟨r, 0, none⟩ = some (.slice a K' c) := (World.cell?_of_block hbn).trans c0
  have f1 : w2.frozen? ⟨r, 0, none⟩ = false := (World.frozen?_of_block hbn).trans f0
  clear r1 r2 r3 r4 hb hn1 hbn HE HN HG c0 f0
  go_wp2
  go_ret2
  exact ⟨by go_num, HE2.out⟩

end
end Go.Proofs.Ythfmppghdlniiaa
