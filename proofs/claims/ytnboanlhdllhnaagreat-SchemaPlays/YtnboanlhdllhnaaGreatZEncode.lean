/- The program's Encode. -/
import Derived.Test.YtnboanlhdllhnaaGreatZNamesC
namespace Go.Proofs.YtnboanlhdllhnaaGreat
open Go.RowKit Go.Maps

/-- a catalogue's bytes -/
def catB (L : Cat) : List UInt8 := (L.map (·.2)).flatMap tabB
def encS (L : Cat) : ByteArray := if (catB L).length ≤ 262144 then bytesOf (catB L) else ⟨#[]⟩
def encE (L : Cat) : Int := if (catB L).length ≤ 262144 then 0 else 2

theorem getL_of_mem {α : Type} {G : List (List UInt8 × α)} (hr : Dk.Rise G) {k : List UInt8} {a : α} (h : (k, a) ∈ G) : Dk.getL k G = some a := by
  cases hg : Dk.getL k G with
  | none => exact absurd rfl (Dk.getL_none hg (k, a) h)
  | some b => rw [Dk.getL_unique hr hg h]

theorem kb_bytes (s : ByteArray) : bytesOf (kb s) = s := list_ba s

section
variable {w : World} {c m : Nat} {G : List (List UInt8 × Ge)}
/-- a look at the name of one that is there -/
theorem CatG.at (h : CatG w c m G) {i : Nat} {p : List UInt8 × Ge} (hp : G[i]? = some p) : (Instr.lookup 59 (.map (some m)) (.string p.2.T.nm) false).run Tryz.prog w = .ok p.2.val w := by
  have hm := List.mem_of_getElem? hp
  obtain ⟨h1, h2, h3⟩ := h.tabs p hm
  have hs := (nameOk_size h3.nm).2
  obtain ⟨v, ps, hrun, hv⟩ := h.map.lookup keyed Tryz.underlying59 (zeroT w) (zd := .held zeroTab) (zp := []) rfl (keyOfS (k := p.2.T.nm) (by unfold maxLen; omega))
  rw [Dk.toD_at, ← h2, getL_of_mem h.rise (show (p.1, p.2) ∈ G from hm)] at hv
  unfold heldR at hv
  simp only [Option.some.injEq, Prod.mk.injEq] at hv
  have : v = p.2.val := by have := hv.1; unfold tok at this; simpa using this
  rw [this] at hrun
  exact hrun
end

set_option maxRecDepth 100000 in
set_option maxHeartbeats 2000000 in
theorem encode_any (c : Nat) (L : Cat) (w : World) (F : Nat → Prop) (h : CatI c L w F) :
    Calls Tryz.prog 17 #[.pointer (some ⟨c, 0, none⟩)] w fun e w' => e = .returned (.tuple #[.string (encS L), .int .i64 (encE L)]) ∧ Below w.heap.size w w' := by
  have HNa : Hid (Calls Tryz.prog 22 #[.pointer (some ⟨c, 0, none⟩)] w fun e w' => ∃ A cap, e = .returned (.slice A (namesC L).length cap) ∧ Hid (w'.ownsRow w.heap.size 9 1 (.slice A (namesC L).length cap) (namesC L).length (scells (namesC L))) ∧ Hid (Below w.heap.size w w')) := names_any c L w F h
  obtain ⟨m, G, hG, hL, hF⟩ := h
  have HK : Hid (∀ u, Below w.heap.size w u → CatG u c m G) := fun u hu => hG.kept fun i hi => hu.block i (hG.lt hi)
  have hfew := hG.few
  have hN : (namesC L).length = G.length := by rw [namesC_length, hL, Dk.length_mapL]
  have HLG : Hid (L.map (·.2) = G.map (·.2.T)) := by show _ = _; rw [hL]; unfold Dk.mapL; rw [List.map_map]; rfl
  have HAt : Hid (∀ i x, (namesC L)[i]? = some x → ∃ p : List UInt8 × Ge, G[i]? = some p ∧ p.2.T.nm = x) := fun i x hx => by
    unfold namesC at hx
    rw [hL, Dk.keysL_mapL, List.getElem?_map] at hx
    unfold Dk.keysL at hx
    rw [List.getElem?_map] at hx
    cases hg : G[i]? with
    | none => rw [hg] at hx; cases hx
    | some p =>
      rw [hg] at hx
      simp only [Option.map_some, Option.some.injEq] at hx
      refine ⟨p, hg, ?_⟩
      rw [← hx, (hG.tabs p (List.mem_of_getElem? hg)).2.1, kb_bytes]
  obtain ⟨K, hK⟩ : ∃ K, namesC L = K := ⟨_, rfl⟩
  rw [hK] at HNa HAt hN
  obtain ⟨N, hNn⟩ : ∃ N, K.length = N := ⟨_, rfl⟩
  have HN : Hid (K.length = N ∧ G.length = N) := ⟨hNn, by omega⟩
  rw [hNn] at HNa
  have hN4 : N ≤ 4096 := by omega
  have HLen : Hid (∀ i, ((G.take i).map (·.2.T)).flatMap tabB = ((L.map (·.2)).take i).flatMap tabB) := fun i => by rw [HLG.out, List.map_take]
  have HBig : Hid (∀ i, ((L.map (·.2)).take i).flatMap tabB = ((L.map (·.2)).take i).flatMap tabB ∧ (((L.map (·.2)).take i).flatMap tabB).length ≤ (catB L).length) := fun i => ⟨rfl, flat_take tabB (L.map (·.2)) i⟩
  have HNext : Hid (∀ (i : Nat) (p : List UInt8 × Ge), G[i]? = some p → ((L.map (·.2)).take (i + 1)).flatMap tabB = ((L.map (·.2)).take i).flatMap tabB ++ tabB p.2.T) := fun i p hp => flat_next tabB (by rw [HLG.out, List.getElem?_map, hp]; rfl)
  have HAll : Hid (((L.map (·.2)).take N).flatMap tabB = catB L) := by
    show _ = _
    unfold catB
    rw [List.take_of_length_le (by rw [HLG.out, List.length_map]; exact Nat.le_of_eq HN.out.2)]
  have HTab : Hid (∀ (i : Nat) (p : List UInt8 × Ge), G[i]? = some p → MayT p.2.T ∧ ∃ a1 n1 c1 a2 n2 c2, p.2.cv = .slice a1 n1 c1 ∧ p.2.iv = .slice a2 n2 c2) := fun i p hp => by
    have ht := hG.tabs p (List.mem_of_getElem? hp)
    obtain ⟨⟨a1, n1, c1, e1⟩, a2, n2, c2, e2⟩ := ht.1.shape
    exact ⟨ht.2.2, a1, n1, c1, a2, n2, c2, e1, e2⟩
  have HWr : Hid (∀ u, Below w.heap.size w u → ∀ (i : Nat) (p : List UInt8 × Ge), G[i]? = some p → Calls Tryz.prog 31 #[tabVal p.2.cv p.2.iv p.2.T] u fun e w' => e = .returned (.string (bytesOf (tabB p.2.T))) ∧ Below u.heap.size u w') := fun u hu i p hp => by
    have ht := hG.tabs p (List.mem_of_getElem? hp)
    exact write_any u w p.2.cv p.2.iv p.2.T hu ht.1.tabV ht.2.2
  clear hG hL hF hfew hN hK hNn HLG HLen
  go_enter Tryz.func17, Tryz.ntmps17
  go_wp2_with (go_at_call 22; go_must (refine HNa.out.mono ?_; rintro e w1 ⟨A, cap, rfl, HR1, HB1⟩))
  clear HNa
  have hcap : N ≤ cap ∧ cap ≤ 9223372036854775807 := by
    rcases HR1.out.2 with ⟨h1, h2⟩ | ⟨g, cap', cur, h1, _, _, h4, h5, _⟩
    · cases h1; omega
    · cases h1
      unfold maxLen at h5
      exact ⟨h4, by omega⟩
  obtain ⟨hcap1, hcap2⟩ := hcap
  go_loopw [4, 10] (fun o v wr => ∃ (i : Nat) (B : List UInt8) (n : Nat) (Ao : Option Addr) (co : Nat), i ≤ N ∧ v = .int .i64 i ∧ o = .slice Ao n co ∧ Hid (B = ((L.map (·.2)).take i).flatMap tabB ∧ B.length = n ∧ n ≤ 262144) ∧ Hid (OwnB wr 0 (.slice Ao n co) B ∧ ∀ b, (Value.slice Ao n co).ownBlock = some b → w.heap.size ≤ b) ∧ Hid (wr.ownsRow w.heap.size 9 1 (.slice A N cap) N (scells K)) ∧ Hid (Below w.heap.size w wr)) (fun _ v _ => N - (intOf v).toNat)
  case atStart => exact ⟨0, [], 0, none, 0, Nat.zero_le _, rfl, rfl, ⟨rfl, rfl, by omega⟩, ⟨World.ownsRow_nil _ _ _ _, (fun _ h => by cases h)⟩, HR1, HB1⟩
  case round =>
    clear HR1 HB1
    obtain ⟨i, B, n, Ao, co, hi, rfl, rfl, HBn, HO, HR, HB⟩ := hrel
    by_cases hlt : i < N
    · obtain ⟨x, hx⟩ : ∃ x, K[i]? = some x := ⟨_, List.getElem?_eq_getElem (by rw [HN.out.1]; exact hlt)⟩
      obtain ⟨p, hp, hpx⟩ := HAt.out i x hx
      obtain ⟨hmay, a1, n1, c1, a2, n2, c2, he1, he2⟩ := HTab.out i p hp
      have hfewb := hmay.few.1
      obtain ⟨g, hA⟩ : ∃ g, A = some ⟨g, 0, none⟩ := by
        rcases HR.out.2 with ⟨h1, h2⟩ | ⟨g, cap', cur, h1, _⟩
        · omega
        · cases h1; exact ⟨g, rfl⟩
      subst hA
      have hc := World.ownsRow.cells HR.out (g := g) rfl i _ (show (scells K)[i]? = some (.string x) by simp [scells, hx])
      rw [Addr.add_lit, Nat.zero_add] at hc
      have hlI : (i : Int) < (N : Int) := by omega
      have hG := HK.out wr HB.out
      have c0 : wr.cell? ⟨c, 0, none⟩ = some (.map (some m)) := by rw [cell_of hG.top]; rfl
      obtain ⟨key, hkey⟩ : ∃ key, p.2.T.key = key := ⟨_, rfl⟩
      have hlk : (Instr.lookup 59 (.map (some m)) (.string x) false).run Tryz.prog wr = .ok (.agg #[.string x, .slice a1 n1 c1, .int .i64 key, .slice a2 n2 c2]) wr := by
        have := hG.at hp
        unfold Ge.val tabVal at this
        rw [he1, he2, hpx, hkey] at this
        exact this
      have HW1 : Hid (Calls Tryz.prog 31 #[.agg #[.string x, .slice a1 n1 c1, .int .i64 key, .slice a2 n2 c2]] wr fun e w' => e = .returned (.string (bytesOf (tabB p.2.T))) ∧ Below wr.heap.size wr w') := by
        have := HWr.out wr HB.out i p hp
        unfold tabVal at this
        rw [he1, he2, hpx, hkey] at this
        exact this
      obtain ⟨tb, htb⟩ : ∃ tb, tabB p.2.T = tb := ⟨_, rfl⟩
      obtain ⟨sb, hsb⟩ : ∃ sb, bytesOf tb = sb := ⟨_, rfl⟩
      have HNx : Hid (((L.map (·.2)).take (i + 1)).flatMap tabB = B ++ tb ∧ sb.data.toList = tb ∧ tb.length ≤ 5000 ∧ sb.size = tb.length) := ⟨by rw [HNext.out i p hp, HBn.out.1, htb], by rw [← hsb, bytesOf_list], by rw [← htb]; exact hfewb, by rw [← hsb, bytesOf_size]⟩
      rw [htb, hsb] at HW1
      have HOk : Hid (∀ u, Below wr.heap.size wr u → OwnB u 0 (.slice Ao n co) B ∧ Below w.heap.size w u ∧ u.ownsRow w.heap.size 9 1 (.slice (some ⟨g, 0, none⟩) N cap) N (scells K)) := fun u hu => ⟨HO.out.1.kept hu, HB.out.trans (hu.mono HB.out.size), ownsRow_block HR.out fun i hi => hu.block i (World.ownsRow.lt HR.out i hi).2⟩
      have HSz : Hid (B.length + sb.size ≤ 10000000) := by show _ ≤ _; have := HBn.out.2; have := HNx.out.2.2; omega
      have hcl : c < wr.heap.size := lt_of hG.top
      clear hx hp hpx hmay he1 he2 hkey htb hsb hG hfewb
      go_wp2_with (first
        | (go_at_call 31; go_must (refine HW1.out.mono ?_; rintro e w3 ⟨rfl, hb3⟩; obtain ⟨o3, b3, r3⟩ := HOk.out w3 hb3; have O3 : Hid (OwnB w3 0 (.slice Ao n co) B) := o3; have B3 : Hid (Below w.heap.size w w3) := b3; have R3 : Hid (w3.ownsRow w.heap.size 9 1 (.slice (some ⟨g, 0, none⟩) N cap) N (scells K)) := r3; clear o3 b3 r3 hb3))
        | (at_builtin; go_must (refine wpList_textT rfl _ _ rfl (.slice Ao n co) B rfl O3.out sb rfl HSz.out ?_; intro Ao' co' w4 mm HMm HO4 HT4 HP4)))
      · have hbig : (262144 : Int) < (mm : Int) := by assumption
        have HEn : Hid (encS L = ⟨#[]⟩ ∧ encE L = 2) := by
          have e1 := (HBig.out (i + 1)).2
          rw [HNx.out.1] at e1
          have e0 : (B ++ tb).length = mm := by rw [← HMm.out, HNx.out.2.1]
          have e2 : ¬ (catB L).length ≤ 262144 := by omega
          exact ⟨by unfold encS; rw [if_neg e2], by unfold encE; rw [if_neg e2]⟩
        go_ret2
        refine ⟨?_, ?_⟩
        · rw [HEn.out.1, HEn.out.2]
          rfl
        · exact B3.out.trans ((HT4.out.mono (S' := fun i => w.heap.size ≤ i) HO.out.2).toBelow B3.out.size)
      · have hsm : ¬ (262144 : Int) < (mm : Int) := by first | assumption | omega | simpa using ‹decide _ = false›
        go_roundw
        case rel =>
          have hb4 : Below w.heap.size w w4 := B3.out.trans ((HT4.out.mono (S' := fun i => w.heap.size ≤ i) HO.out.2).toBelow B3.out.size)
          refine ⟨i + 1, B ++ tb, mm, Ao', co', by omega, by go_num, rfl, ⟨HNx.out.1.symm, by rw [← HMm.out, HNx.out.2.1], by omega⟩, ⟨by rw [← HNx.out.2.1]; exact HO4.out, fun b hb => ?_⟩, ?_, hb4⟩
          · rcases HP4.out b hb with h | h
            · exact HO.out.2 b h
            · exact Nat.le_trans B3.out.size h
          · refine ownsRow_block R3.out fun q hq => HT4.out.block q (World.ownsRow.lt R3.out q hq).2 (fun e => ?_)
            obtain ⟨cur, hcur, _⟩ := ownsRow_own R3.out hq
            exact O3.out.ne hcur (by decide) e rfl
        case measure => simp [intOf]; omega
    · have hlI : ¬ (i : Int) < (N : Int) := by omega
      have hcv := HO.out.1.str
      have HEn : Hid (encS L = bytesOf B ∧ encE L = 0) := by
        have e1 : catB L = B := by rw [← HAll.out, HBn.out.1, show i = N by omega]
        have e2 : (catB L).length ≤ 262144 := by rw [e1, HBn.out.2.1]; exact HBn.out.2.2
        exact ⟨by unfold encS; rw [if_pos e2, e1], by unfold encE; rw [if_pos e2]⟩
      go_wp2
      go_ret2
      refine ⟨?_, HB.out⟩
      rw [HEn.out.1, HEn.out.2]
      rfl

end Go.Proofs.YtnboanlhdllhnaaGreat
