/- Packets in a row of bytes: the plain model of layer 7. -/
import Derived.Test.YtddbacphlbaohaaBase
namespace Go.Proofs.Ytddbacphlbaohaa

/-- four bytes as a number, the highest first -/
def be4 : List UInt8 → Nat
  | a :: b :: c :: d :: _ => a.toNat * 16777216 + b.toNat * 65536 + c.toNat * 256 + d.toNat
  | _ => 0

def pk4 (n : Nat) : List UInt8 := [UInt8.ofNat (n / 16777216), UInt8.ofNat (n / 65536 % 256), UInt8.ofNat (n / 256 % 256), UInt8.ofNat (n % 256)]

def packet (s : List UInt8) : List UInt8 := pk4 s.length ++ s

theorem pk4_len (n : Nat) : (pk4 n).length = 4 := rfl
theorem packet_len (s : List UInt8) : (packet s).length = 4 + s.length := by rw [packet, List.length_append, pk4_len]

theorem be4_lt : ∀ l, be4 l < 4294967296
  | [] => by decide
  | [_] => Nat.zero_lt_succ _
  | [_, _] => Nat.zero_lt_succ _
  | [_, _, _] => Nat.zero_lt_succ _
  | a :: b :: c :: d :: _ => by
    have h1 := a.toNat_lt
    have h2 := b.toNat_lt
    have h3 := c.toNat_lt
    have h4 := d.toNat_lt
    show a.toNat * 16777216 + b.toNat * 65536 + c.toNat * 256 + d.toNat < 4294967296
    omega

theorem be4_pk4 {n : Nat} (h : n < 4294967296) (r : List UInt8) : be4 (pk4 n ++ r) = n := by
  show (UInt8.ofNat (n / 16777216)).toNat * 16777216 + (UInt8.ofNat (n / 65536 % 256)).toNat * 65536 + (UInt8.ofNat (n / 256 % 256)).toNat * 256 + (UInt8.ofNat (n % 256)).toNat = n
  have e1 : (UInt8.ofNat (n % 256)).toNat = n % 256 := by simp
  have e2 : (UInt8.ofNat (n / 256 % 256)).toNat = n / 256 % 256 := by simp
  have e3 : (UInt8.ofNat (n / 65536 % 256)).toNat = n / 65536 % 256 := by simp
  have e4 : (UInt8.ofNat (n / 16777216)).toNat = n / 16777216 := by simp; omega
  rw [e1, e2, e3, e4]
  omega

theorem be4_append {l : List UInt8} (h : 4 ≤ l.length) (m : List UInt8) : be4 (l ++ m) = be4 l := by
  match l, h with
  | _ :: _ :: _ :: _ :: _, _ => rfl

/-- what bytes are cut into: the bodies that are whole, what is left, whether a length is too great -/
structure Cut where
  bodies : List (List UInt8)
  rest : List UInt8
  bad : Bool

def cutF : Nat → List UInt8 → Cut
  | 0, l => ⟨[], l, false⟩
  | n + 1, l =>
    if l.length < 4 then ⟨[], l, false⟩
    else if 65536 < be4 l then ⟨[], [], true⟩
    else if l.length < 4 + be4 l then ⟨[], l, false⟩
    else ⟨(l.drop 4).take (be4 l) :: (cutF n (l.drop (4 + be4 l))).bodies, (cutF n (l.drop (4 + be4 l))).rest, (cutF n (l.drop (4 + be4 l))).bad⟩

theorem cutF_more : ∀ (n m : Nat) (l : List UInt8), l.length < n → l.length < m → cutF n l = cutF m l
  | 0, _, _, h, _ => by omega
  | _ + 1, 0, _, _, h => by omega
  | n + 1, m + 1, l, h1, h2 => by
    unfold cutF
    by_cases a : l.length < 4
    · rw [if_pos a, if_pos a]
    · rw [if_neg a, if_neg a, cutF_more n m (l.drop (4 + be4 l)) (by rw [List.length_drop]; omega) (by rw [List.length_drop]; omega)]

def cut (l : List UInt8) : Cut := cutF (l.length + 1) l

theorem cut_short {l : List UInt8} (h : l.length < 4) : cut l = ⟨[], l, false⟩ := by
  unfold cut cutF
  rw [if_pos h]

theorem cut_great {l : List UInt8} (h : 4 ≤ l.length) (h1 : 65536 < be4 l) : cut l = ⟨[], [], true⟩ := by
  unfold cut cutF
  rw [if_neg (by omega), if_pos h1]

theorem cut_part {l : List UInt8} (h : 4 ≤ l.length) (h1 : be4 l ≤ 65536) (h2 : l.length < 4 + be4 l) : cut l = ⟨[], l, false⟩ := by
  unfold cut cutF
  rw [if_neg (by omega), if_neg (by omega), if_pos h2]

theorem cut_next {l : List UInt8} (h1 : be4 l ≤ 65536) (h2 : 4 + be4 l ≤ l.length) :
    cut l = ⟨(l.drop 4).take (be4 l) :: (cut (l.drop (4 + be4 l))).bodies, (cut (l.drop (4 + be4 l))).rest, (cut (l.drop (4 + be4 l))).bad⟩ := by
  have e : cutF l.length (l.drop (4 + be4 l)) = cut (l.drop (4 + be4 l)) := cutF_more _ _ _ (by rw [List.length_drop]; omega) (by omega)
  rw [← e]
  unfold cut
  rw [cutF, if_neg (by omega), if_neg (by omega), if_neg (by omega)]

/-- the ways that a row of bytes can stand -/
theorem cut_cases (l : List UInt8) : l.length < 4 ∨ (4 ≤ l.length ∧ 65536 < be4 l) ∨ (4 ≤ l.length ∧ be4 l ≤ 65536 ∧ l.length < 4 + be4 l) ∨ (be4 l ≤ 65536 ∧ 4 + be4 l ≤ l.length) := by omega

theorem cut_append : ∀ (n : Nat) (l m : List UInt8), l.length ≤ n →
    ((cut l).bad = true → cut (l ++ m) = cut l) ∧
    ((cut l).bad = false → cut (l ++ m) = ⟨(cut l).bodies ++ (cut ((cut l).rest ++ m)).bodies, (cut ((cut l).rest ++ m)).rest, (cut ((cut l).rest ++ m)).bad⟩)
  | n, l, m, hn => by
    rcases cut_cases l with h | ⟨h, h1⟩ | ⟨h, h1, h2⟩ | ⟨h1, h2⟩
    · rw [cut_short h]
      exact ⟨fun e => (by cases e), fun _ => rfl⟩
    · rw [cut_great h h1, cut_great (by rw [List.length_append]; omega) (by rw [be4_append h]; exact h1)]
      exact ⟨fun _ => rfl, fun e => (by cases e)⟩
    · rw [cut_part h h1 h2]
      exact ⟨fun e => (by cases e), fun _ => rfl⟩
    · have h4 : 4 ≤ l.length := by omega
      have e1 := cut_next h1 h2
      have e2 := cut_next (l := l ++ m) (by rw [be4_append h4]; exact h1) (by rw [be4_append h4, List.length_append]; omega)
      rw [be4_append h4, List.drop_append_of_le_length (by omega), List.drop_append_of_le_length (by omega), List.take_append_of_le_length (by rw [List.length_drop]; omega)] at e2
      match n with
      | 0 => omega
      | k + 1 =>
        obtain ⟨i1, i2⟩ := cut_append k (l.drop (4 + be4 l)) m (by rw [List.length_drop]; omega)
        rw [e1, e2]
        refine ⟨fun hb => ?_, fun hb => ?_⟩
        · rw [i1 hb]
        · rw [i2 hb]
          rfl

theorem cut_on {l : List UInt8} (h : (cut l).bad = false) (m : List UInt8) : cut (l ++ m) = ⟨(cut l).bodies ++ (cut ((cut l).rest ++ m)).bodies, (cut ((cut l).rest ++ m)).rest, (cut ((cut l).rest ++ m)).bad⟩ :=
  (cut_append _ l m (Nat.le_refl _)).2 h

theorem cut_bad {l : List UInt8} (h : (cut l).bad = true) (m : List UInt8) : cut (l ++ m) = cut l := (cut_append _ l m (Nat.le_refl _)).1 h

/-- a good row's beginning is good -/
theorem cut_good {l m : List UInt8} (h : (cut (l ++ m)).bad = false) : (cut l).bad = false := by
  cases e : (cut l).bad with
  | false => rfl
  | true => rw [cut_bad e m, e] at h; cases h

def packets (M : List (List UInt8)) : List UInt8 := M.flatMap packet

theorem packets_snoc (M : List (List UInt8)) (s : List UInt8) : packets (M ++ [s]) = packets M ++ packet s := by simp [packets]

theorem cut_packet {s : List UInt8} (h : s.length ≤ 65536) (r : List UInt8) : cut (packet s ++ r) = ⟨s :: (cut r).bodies, (cut r).rest, (cut r).bad⟩ := by
  have hb : be4 (packet s ++ r) = s.length := by rw [packet, List.append_assoc]; exact be4_pk4 (by omega) _
  have e := cut_next (l := packet s ++ r) (by omega) (by rw [hb, List.length_append, packet_len]; omega)
  rw [hb] at e
  have d1 : (packet s ++ r).drop (4 + s.length) = r := by rw [← packet_len, List.drop_left]
  have d2 : ((packet s ++ r).drop 4).take s.length = s := by
    rw [packet, List.append_assoc, ← pk4_len s.length, List.drop_left, List.take_left]
  rw [d1, d2] at e
  exact e

theorem cut_packets (r : List UInt8) : ∀ (M : List (List UInt8)), (∀ s ∈ M, s.length ≤ 65536) → cut (packets M ++ r) = ⟨M ++ (cut r).bodies, (cut r).rest, (cut r).bad⟩
  | [], _ => rfl
  | s :: M, h => by
    have e : packets (s :: M) ++ r = packet s ++ (packets M ++ r) := by rw [← List.append_assoc]; rfl
    rw [e, cut_packet (h s (List.mem_cons_self ..)), cut_packets r M fun t ht => h t (List.mem_cons_of_mem _ ht)]
    rfl

def given (M : List (List UInt8)) : Nat := (M.map fun s => 4 + s.length).sum

theorem given_cons (s : List UInt8) (M : List (List UInt8)) : given (s :: M) = 4 + s.length + given M := by simp [given]
theorem given_append (M N : List (List UInt8)) : given (M ++ N) = given M + given N := by simp [given]

/-- what is left is what was not given out, and it is short; a bad one keeps nothing -/
theorem cut_left : ∀ (n : Nat) (l : List UInt8), l.length ≤ n →
    ((cut l).bad = false → l.length = given (cut l).bodies + (cut l).rest.length ∧ (cut l).rest.length < 65540) ∧ ((cut l).bad = true → (cut l).rest = []) ∧ (given (cut l).bodies ≤ l.length) ∧ ∀ s ∈ (cut l).bodies, s.length ≤ 65536
  | n, l, hn => by
    rcases cut_cases l with h | ⟨h, h1⟩ | ⟨h, h1, h2⟩ | ⟨h1, h2⟩
    · rw [cut_short h]
      exact ⟨fun _ => ⟨by simp [given], by dsimp only; omega⟩, fun e => (by cases e), Nat.zero_le _, fun s hs => (by cases hs)⟩
    · rw [cut_great h h1]
      exact ⟨fun e => (by cases e), fun _ => rfl, Nat.zero_le _, fun s hs => (by cases hs)⟩
    · rw [cut_part h h1 h2]
      exact ⟨fun _ => ⟨by simp [given], by dsimp only; omega⟩, fun e => (by cases e), Nat.zero_le _, fun s hs => (by cases hs)⟩
    · rw [cut_next h1 h2]
      match n with
      | 0 => omega
      | k + 1 =>
        obtain ⟨i1, i2, i3, i4⟩ := cut_left k (l.drop (4 + be4 l)) (by rw [List.length_drop]; omega)
        have hl : (l.drop (4 + be4 l)).length = l.length - (4 + be4 l) := List.length_drop ..
        have ht : ((l.drop 4).take (be4 l)).length = be4 l := by rw [List.length_take, List.length_drop]; omega
        refine ⟨fun hb => ?_, fun hb => i2 hb, ?_, fun s hs => ?_⟩
        · obtain ⟨j1, j2⟩ := i1 hb
          refine ⟨?_, j2⟩
          dsimp only
          rw [given_cons, ht]
          omega
        · dsimp only
          rw [given_cons, ht]
          omega
        · rcases List.mem_cons.1 hs with rfl | hs
          · omega
          · exact i4 s hs

/-- a reader: what it keeps, whether it is bad -/
structure Rd where
  kept : List UInt8
  ill : Bool

/-- what a feed gives out, tells, and leaves -/
def feedB (r : Rd) (b : List UInt8) : List (List UInt8) := if r.ill then [] else if 262144 < b.length then [] else (cut (r.kept ++ b)).bodies
def feedE (r : Rd) (b : List UInt8) : Int := if r.ill then 70 else if 262144 < b.length then 2 else if (cut (r.kept ++ b)).bad then 70 else 0
def feedR (r : Rd) (b : List UInt8) : Rd := if r.ill then r else if 262144 < b.length then r else ⟨(cut (r.kept ++ b)).rest, (cut (r.kept ++ b)).bad⟩

/-- a reader that stands behind the bytes P: as long as they are good -/
def Behind (P : List UInt8) (r : Rd) : Prop := (cut P).bad = false ∧ r = ⟨(cut P).rest, false⟩

theorem Behind.new : Behind [] ⟨[], false⟩ := ⟨rfl, rfl⟩

theorem Behind.feed {P : List UInt8} {r : Rd} (h : Behind P r) {b : List UInt8} (hb : b.length ≤ 262144) (hg : (cut (P ++ b)).bad = false) :
    Behind (P ++ b) (feedR r b) ∧ feedE r b = 0 ∧ (cut (P ++ b)).bodies = (cut P).bodies ++ feedB r b := by
  obtain ⟨h1, rfl⟩ := h
  have e := cut_on h1 b
  rw [e] at hg
  have hb' : ¬ (262144 < b.length) := by omega
  have hg' : (cut ((cut P).rest ++ b)).bad = false := hg
  refine ⟨⟨by rw [e]; exact hg, ?_⟩, ?_, ?_⟩
  · simp only [feedR, if_neg hb', e, hg']
    rfl
  · simp only [feedE, if_neg hb', hg']
    rfl
  · simp only [feedB, if_neg hb', e]
    rfl

theorem Behind.feedBad {P : List UInt8} {r : Rd} (h : Behind P r) {b : List UInt8} (hb : b.length ≤ 262144) (hg : (cut (P ++ b)).bad = true) :
    feedR r b = ⟨[], true⟩ ∧ feedE r b = 70 ∧ (cut (P ++ b)).bodies = (cut P).bodies ++ feedB r b := by
  obtain ⟨h1, rfl⟩ := h
  have e := cut_on h1 b
  rw [e] at hg
  have hb' : ¬ (262144 < b.length) := by omega
  have hg' : (cut ((cut P).rest ++ b)).bad = true := hg
  have hr := (cut_left _ ((cut P).rest ++ b) (Nat.le_refl _)).2.1 hg'
  refine ⟨?_, ?_, ?_⟩
  · simp only [feedR, if_neg hb', hg', hr]
    rfl
  · simp only [feedE, if_neg hb', hg']
    rfl
  · simp only [feedB, if_neg hb', e]
    rfl

end Go.Proofs.Ytddbacphlbaohaa
