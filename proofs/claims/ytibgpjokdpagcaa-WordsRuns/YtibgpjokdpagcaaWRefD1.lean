/- The document's machine does an instruction of kind 1. -/
import Derived.Test.YtibgpjokdpagcaaWRefD
namespace Go.Proofs.Ytibgpjokdpagcaa
open Go.RowKit

section
variable {wb w : World} {mb pb rb db : Nat} {vt vc : Value} {m n : Nat} {Ps : List Int} {R : List (List Int)} {D : List Bool} {c : List Int} {k : Nat} {t : Nat} {L : List InsV} {tb to ct : Nat} {ta : Option Addr} {tc : Nat}

set_option maxRecDepth 100000 in
set_option maxHeartbeats 4000000 in
theorem do_1 (h : RefG wb w mb pb rb db vt vc m n Ps R D c k) (hT : TaskAt wb vt m t L tb to ct ta tc) (ht : t < m) {p : Nat} (hp : Ps.getD t 0 = (p : Int)) {x : InsV} (hx : L[p]? = some x) (hk : x.kind = 1) (hO : TaskOk L n) (h8 : (R.getD t []).length = 8) :
    Calls Try.prog 29 #[.pointer (some ⟨mb, 0, none⟩), .int .i64 (t : Int)] w fun e w' => e = .returned (.bool (doA x ⟨R.getD t [], p, c⟩ L.length)) ∧
      RefG wb w' mb pb rb db vt vc m n (Ps.set t (doP x ⟨R.getD t [], p, c⟩ L.length)) (R.set t (St.one L.length ⟨R.getD t [], p, c⟩ x).1.r) (doD x D t) (St.one L.length ⟨R.getD t [], p, c⟩ x).1.c k := by
  have HG : Hid (RefG wb w mb pb rb db vt vc m n Ps R D c k) := h
  obtain ⟨x0, x1, -, -, -, -⟩ := h.tops
  have y1 := (h.place ht).1
  rw [hp] at y1
  have y3 : w.cell? ⟨tb, to + t, none⟩ = some (.slice ta L.length tc) := (h.below.cell hT.lt).trans hT.cell
  have hcap := hT.cap
  have hvt := hT.v
  rw [hvt] at x0
  have htI : (t : Int) < (m : Int) := by omega
  have hpl : p < L.length := (List.getElem?_eq_some_iff.1 hx).1
  obtain ⟨ta', tc', et, htl, htc, htx⟩ := hT.code
  cases et
  obtain ⟨b, off, rfl, hbl, hcs⟩ := htx (by intro e; rw [e] at hpl; simp at hpl)
  have hxe : L[p] = x := (List.getElem?_eq_some_iff.1 hx).2
  have q := hcs p hpl
  rw [hxe] at q
  have p0 := (h.below.cell (p := ⟨b, off + p * 4, none⟩) hbl).trans (q 0 _ rfl)
  have p1 := (h.below.cell (p := ⟨b, off + p * 4 + 1, none⟩) hbl).trans (q 1 _ rfl)
  have p2 := (h.below.cell (p := ⟨b, off + p * 4 + 2, none⟩) hbl).trans (q 2 _ rfl)
  have p3 := (h.below.cell (p := ⟨b, off + p * 4 + 3, none⟩) hbl).trans (q 3 _ rfl)
  obtain ⟨hr1, hr2⟩ : x.regs ∧ x.num L.length n := hO.all x (hxe ▸ List.getElem_mem hpl)
  have HN : Hid (x.num L.length n) := hr2
  have hlen : L.length ≤ 4096 := hO.len
  obtain ⟨xk, xa, xb, xn⟩ := x
  dsimp only at hk
  subst hk
  obtain ⟨ra1, ra2, rb1, rb2⟩ := hr1
  dsimp only at ra1 ra2 rb1 rb2 p0 p1 p2 p3
  obtain ⟨i, rfl⟩ := Int.eq_ofNat_of_zero_le ra1
  obtain ⟨ib, rfl⟩ := Int.eq_ofNat_of_zero_le rb1
  have hi : i < 8 := by omega
  have hib : ib < 8 := by omega
  have hbw : b < w.heap.size := Nat.lt_of_lt_of_le hbl h.below.size
  have htw : tb < w.heap.size := Nat.lt_of_lt_of_le hT.lt h.below.size
  have hmw : mb < w.heap.size := lt_of h.top
  have hpw : pb < w.heap.size := by obtain ⟨cu, e, _⟩ := h.pl; exact lt_of e
  have H8 : Hid ((R.getD t []).length = 8) := h8
  have HPp : Hid (Ps.getD t 0 = (p : Int)) := hp
  have HLR : Hid (t < R.length) := by rw [h.lr]; exact ht
  unfold maxLen at htc
  obtain ⟨r, hr⟩ : ∃ r, R.getD t [] = r := ⟨_, rfl⟩
  have HR : Hid (R.getD t [] = r) := hr
  rw [hr] at H8
  rw [hr]
  clear hcs q hxe hr2 hx h hT hp hO h8 htx hr ra1 rb1 ra2 rb2
  go_enter Try.func29, Try.ntmps29
  go_wp2_with fail
  go_region
  have HG1 : Hid (RefG wb (w.alloc (.cells #[.int .i64 1, .int .i64 (i : Int), .int .i64 (ib : Int), .int .i64 xn] 53 (0, 0))).drew mb pb rb db vt vc m n Ps R D c k) := HG.out.stay (((Below.refl _ _).alloc (Nat.le_refl _) _).drew)
  have hin : (w.alloc (.cells #[.int .i64 1, .int .i64 (i : Int), .int .i64 (ib : Int), .int .i64 xn] 53 (0, 0))).drew.heap[w.heap.size]? = some (.cells #[.int .i64 1, .int .i64 (i : Int), .int .i64 (ib : Int), .int .i64 xn] 53 (0, 0)) := heap_new w _
  obtain ⟨ab, hab⟩ : ∃ ab, w.heap.size = ab := ⟨_, rfl⟩
  rw [hab] at hin hpw ⊢
  generalize (w.alloc (.cells #[.int .i64 1, .int .i64 (i : Int), .int .i64 (ib : Int), .int .i64 xn] 53 (0, 0))).drew = w1 at HG1 hin ⊢
  clear x0 x1 y1 y3 p0 p1 p2 p3 hab HG
  obtain ⟨-, x1, -, -, -, -⟩ := HG1.out.tops
  obtain ⟨y1, yf⟩ := HG1.out.place ht
  rw [HPp.out] at y1
  have HG2 : Hid (RefG wb (w1.setCell ⟨pb, t, none⟩ (.int .i64 ((p : Int) + 1))) mb pb rb db vt vc m n (Ps.set t ((p : Int) + 1)) R D c k) := HG1.out.setPlace ht _
  have hin2 : (w1.setCell ⟨pb, t, none⟩ (.int .i64 ((p : Int) + 1))).heap[ab]? = some (.cells #[.int .i64 1, .int .i64 (i : Int), .int .i64 (ib : Int), .int .i64 xn] 53 (0, 0)) :=
    ((Turn.setCell (S := fun q => q = pb) w1 ⟨pb, t, none⟩ (.int .i64 ((p : Int) + 1)) rfl).block ab (lt_of hin) (by omega)).trans hin
  have e0 : (w1.setCell ⟨pb, t, none⟩ (.int .i64 ((p : Int) + 1))).cell? ⟨ab, 0, none⟩ = some (.int .i64 1) := by rw [cell_of hin2]; rfl
  clear hin HG1 hvt
  go_wp2_with fail
  generalize (w1.setCell ⟨pb, t, none⟩ (.int .i64 ((p : Int) + 1))) = w3 at HG2 hin2 e0 ⊢
  clear x1 y1 yf
  obtain ⟨-, -, t2, t3, t4, -⟩ := HG2.out.tops
  have e1 : w3.cell? ⟨ab, 1, none⟩ = some (.int .i64 (i : Int)) := by rw [cell_of hin2]; rfl
  have e2 : w3.cell? ⟨ab, 2, none⟩ = some (.int .i64 (ib : Int)) := by rw [cell_of hin2]; rfl
  have e3 : w3.cell? ⟨ab, 3, none⟩ = some (.int .i64 xn) := by rw [cell_of hin2]; rfl
  obtain ⟨r1, rf⟩ := HG2.out.reg ht hi
  obtain ⟨r2, -⟩ := HG2.out.reg ht hib
  rw [HR.out] at r1 r2
  obtain ⟨zi, hzi⟩ : ∃ z, r.getD i 0 = z := ⟨_, rfl⟩
  obtain ⟨zb, hzb⟩ : ∃ z, r.getD ib 0 = z := ⟨_, rfl⟩
  rw [hzi] at r1
  rw [hzb] at r2
  have HZi : Hid (r.getD i 0 = zi) := hzi
  have HZb : Hid (r.getD ib 0 = zb) := hzb
  clear hzi hzb
  go_region
  have HG4 : Hid (RefG wb (w3.setCell ⟨rb, t * 8 + i, none⟩ (.int .u64 (IntKind.u64.wrap xn))).drew mb pb rb db vt vc m n (Ps.set t ((p : Int) + 1)) (R.set t (r.set i (xn % two64))) D c k) := by
    have h4 := (HG2.out.setReg ht hi (by rw [HR.out]; exact H8.out) (IntKind.u64.wrap xn)).stay ((Below.refl _ _).drew)
    rw [HR.out] at h4
    rw [IntKind.wrap_u64] at h4 ⊢
    exact h4
  go_wp2_with fail
  go_ret
  exact ⟨rfl, HG4.out⟩
end

end Go.Proofs.Ytibgpjokdpagcaa
