/- The chapter's two examples work. -/
import Derived.Test.YtookddieiegchaaKEnc
import Derived.Laws.BytesArg
namespace Go.Proofs.Ytookddieiegchaa
open Go.RowKit

theorem own_string {w : World} {base : Nat} {v : Value} {K : List Int} (h : Own w base v K) (hK : 0 < K.length) :
    ∃ g c, v = .slice (some ⟨g, 0, none⟩) K.length c ∧ (convert 34 9 v).run Try.prog w = .ok (.string (strOfNums K)) w := by
  obtain ⟨g, c, hv, -, -⟩ := World.ownsRow.form h hK
  refine ⟨g, c, hv, ?_⟩
  rw [hv]
  refine run_convert_bytes_arg w 34 5 Try.underlying34 Try.underlying5 g 0 K.length c K rfl ?_ 9 Try.underlying9
  intro i hi
  have hu : (K.map byt)[i]? = some (byt (K.getD i 0)) := by simp [List.getD, hi]
  have hc := World.ownsRow.cells h (g := g) (by rw [hv]; rfl) i _ hu
  rw [Addr.add_lit] at hc
  exact hc

set_option maxRecDepth 100000 in
set_option maxHeartbeats 1000000 in
theorem encode_one (b : Nat) (k n : Int) (s : ByteArray) (K : List Int) (w : World) (hv : OneAt w b k n s) (hK : 0 < K.length) (hK2 : K.length ≤ 100000)
    (hm : ∀ u, Calls Try.prog 9 #[val k n s] u fun e w' => e = .returned (.bool true) ∧ Below u.heap.size u w')
    (ha : ∀ u base, base ≤ u.heap.size → Calls Try.prog 8 #[.slice none 0 0, val k n s] u fun e w' => ∃ v, e = .returned v ∧ Own w' base v K ∧ Below base u w') :
    Calls Try.prog 6 #[.slice (some ⟨b, 0, none⟩) 1 1] w fun e w' => e = .returned (.tuple #[.string (strOfNums K), .int .i64 0]) ∧ Below w.heap.size w w' := by
  have HC : Hid (Calls Try.prog 7 #[.slice (some ⟨b, 0, none⟩) 1 1] w fun e w' => e = .returned (.tuple #[.int .i64 0, .int .i64 0]) ∧ Below w.heap.size w w') := check_one b k n s w hv hm
  have HA : Hid (∀ u base, base ≤ u.heap.size → Calls Try.prog 8 #[.slice none 0 0, val k n s] u fun e w' => ∃ v, e = .returned v ∧ Own w' base v K ∧ Below base u w') := ha
  have HV : Hid (OneAt w b k n s) := hv
  unfold val at HA
  clear hm ha hv
  have hsl := @store_law
  go_enter Try.func6, Try.ntmps6
  go_wp2_with (go_at_call 7; refine HC.out.mono ?_; rintro e w1 ⟨rfl, hb1⟩)
  obtain ⟨h0, h1, h2, h3, h4⟩ := HV.out.below hb1
  have hsz1 : w.heap.size ≤ w1.heap.size := hb1.size
  refine wp_loop_rounds 2 ?_
  rw [rounds_succ]
  go_wp2_with (go_at_call 8; refine (HA.out _ w.heap.size (by simp; omega)).mono ?_; rintro e w2 ⟨v2, rfl, ho2, hb2⟩)
  rw [rounds_succ]
  obtain ⟨g, c, rfl, hcv⟩ := own_string ho2 hK
  have hK' : (K.length : Int) ≤ 262144 := by omega
  go_wp2_with fail
  go_ret2
  refine ⟨rfl, (hb1.trans ?_).trans hb2⟩
  go_grown

def keyFive : ByteArray := ⟨#[3, 128, 0, 0, 0, 0, 0, 0, 5]⟩
def keyText : ByteArray := ⟨#[6, 97, 0, 255, 98, 0, 1]⟩

theorem k5_law : keyFive.toList = [3, 128, 0, 0, 0, 0, 0, 0, 5] := by
  rw [Go.ByteArray.toList_eq]
  rfl

theorem k6_law : keyText.toList = [6, 97, 0, 255, 98, 0, 1] := by
  rw [Go.ByteArray.toList_eq]
  rfl

theorem own_nil (u : World) (base : Nat) : Own u base (.slice none 0 0) [] := World.ownsRow_nil _ _ _ _

theorem encode_five (b : Nat) (w : World) (hv : OneAt w b 2 5 ⟨#[]⟩) :
    Calls Try.prog 6 #[.slice (some ⟨b, 0, none⟩) 1 1] w fun e w' => e = .returned (.tuple #[.string keyFive, .int .i64 0]) ∧ Below w.heap.size w w' :=
  encode_one b 2 5 ByteArray.empty ([] ++ [3] ++ five) w hv (by decide) (by decide) (mayBe_int 5) (fun u base hb => value_int base _ [] u (by decide) (own_nil u base) hb)

theorem encode_text (b : Nat) (w : World) (hv : OneAt w b 5 0 ⟨#[97, 0, 98]⟩) :
    Calls Try.prog 6 #[.slice (some ⟨b, 0, none⟩) 1 1] w fun e w' => e = .returned (.tuple #[.string keyText, .int .i64 0]) ∧ Below w.heap.size w w' :=
  encode_one b 5 0 ⟨#[97, 0, 98]⟩ ([] ++ [6] ++ turned [97, 0, 98] ++ [0, 1]) w hv (by decide) (by decide) (mayBe_text _ (by decide)) (fun u base hb => value_text ⟨#[97, 0, 98]⟩ (by decide) base _ [] u (by decide) (own_nil u base) hb)

set_option maxRecDepth 100000 in
set_option maxHeartbeats 1000000 in
theorem works_any (w : World) : Calls Try.prog 4 #[] w fun e w' => e = .returned (.bool true) ∧ Below w.heap.size w w' := by
  have hsl := @store_law
  have k5 := k5_law
  have k6 := k6_law
  go_enter Try.func4, Try.ntmps4
  go_wp2_with fail
  refine (encode_five w.heap.size _ ⟨by simp, by simp, by simp, by simp, by simp⟩).mono ?_
  rintro e w1 ⟨rfl, hb1⟩
  have hs1 : w.heap.size ≤ w1.heap.size := Nat.le_trans (by simp) hb1.size
  have H1 : Hid (Below w.heap.size w w1) := Below.trans ((Below.refl _ w).alloc (Nat.le_refl _) _) (hb1.mono (by simp))
  clear hb1
  go_wp2_with fail
  refine (encode_text w1.heap.size _ ⟨by simp, by simp, by simp, by simp, by simp⟩).mono ?_
  rintro e w2 ⟨rfl, hb2⟩
  go_wp2_with fail
  go_ret
  refine ⟨rfl, H1.out.trans ?_⟩
  exact Below.trans ((Below.refl _ w1).alloc hs1 _) (hb2.mono (by simp; omega))

end Go.Proofs.Ytookddieiegchaa
