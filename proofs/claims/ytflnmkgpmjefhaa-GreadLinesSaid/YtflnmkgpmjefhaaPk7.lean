/- Texts that the laws of this seat stand on, part 7. -/
import Derived.Test.YtflnmkgpmjefhaaPk6
import Derived.Lib.Strings
import Derived.Test.YtflnmkgpmjefhaaPk3
import Derived.Test.YtflnmkgpmjefhaaPk1
/- What the program asks of a line, plainly: words that are numbers, numbers below a bound; first lines and edges' lines told by these. No program in sight. -/
namespace Go.Proofs.Ytflnmkgpmjefhaa.GrPure
open EdPure DecPure WordPure
def belB (n m : Int) : Bool := decide (0 ≤ n) && decide (n < m)
/-- A word as a number: one that 64 bits have no room for is -1. -/
def zW (p : List UInt8) : Int := if parseE p = 10 then -1 else parseN p
def numsB (l : List UInt8) (k : Nat) : Bool := decide ((wordsL l).length = k) && (wordsL l).all fun p => parseE p != 2
theorem nums_yes {l : List UInt8} {k : Nat} (h : (wordsL l).length = k) (h2 : ∀ p ∈ wordsL l, parseE p ≠ 2) : numsB l k = true := by
  unfold numsB
  rw [Bool.and_eq_true, decide_eq_true_eq, List.all_eq_true]
  exact ⟨h, fun p hp => by simpa using h2 p hp⟩
theorem nums_len {l : List UInt8} {k : Nat} (h : (wordsL l).length ≠ k) : numsB l k = false := by unfold numsB; simp [h]
theorem nums_no {l p : List UInt8} {k : Nat} (hp : p ∈ wordsL l) (h : parseE p = 2) : numsB l k = false := by
  unfold numsB
  rw [Bool.and_eq_false_iff]
  exact Or.inr (List.all_eq_false.2 ⟨p, hp, by rw [h]; decide⟩)
theorem nums_of {l : List UInt8} {k : Nat} (h : numsB l k = true) : (wordsL l).length = k ∧ ∀ p ∈ wordsL l, parseE p ≠ 2 := by
  unfold numsB at h
  rw [Bool.and_eq_true, decide_eq_true_eq, List.all_eq_true] at h
  exact ⟨h.1, fun p hp => by simpa using h.2 p hp⟩
theorem parse_three (p : List UInt8) : (parseE p = 2 ∧ parseN p = 0) ∨ (parseE p = 10 ∧ zW p = -1) ∨ (parseE p = 0 ∧ zW p = parseN p) := by
  unfold zW
  rcases parse_cases p with ⟨-, h1, h2⟩ | ⟨-, -, h1, h2⟩ | ⟨-, -, h1, h2⟩
  · exact Or.inl ⟨h1, h2⟩
  · exact Or.inr (Or.inl ⟨h1, if_pos h1⟩)
  · exact Or.inr (Or.inr ⟨h1, if_neg (by rw [h1]; decide)⟩)
theorem bel_iff (n m : Int) : belB n m = true ↔ 0 ≤ n ∧ n < m := by unfold belB; simp
theorem zW_rng (p : List UInt8) : -9223372036854775808 ≤ zW p ∧ zW p ≤ 9223372036854775807 := by
  unfold zW
  by_cases h : parseE p = 10
  · rw [if_pos h]; omega
  · rw [if_neg h]; exact parse_rng p
/-- A number below a bound is one of the document's. -/
theorem bel_nat {p : List UInt8} (h : parseE p ≠ 2) (most : Int) : (belB (zW p) (most + 1) = true ∧ natE p most = 0 ∧ natN p most = zW p) ∨ (belB (zW p) (most + 1) = false ∧ natE p most ≠ 0) := by
  rcases parse_three p with ⟨h1, h2⟩ | ⟨h1, h2⟩ | ⟨h1, h2⟩
  · exact absurd h1 h
  · refine Or.inr ⟨?_, ?_⟩
    · rw [h2]; unfold belB; simp
    · rw [(nat_bad (by rw [h1]; decide) most).1, h1]; decide
  · rw [h2]
    by_cases hb : parseN p < 0 ∨ most < parseN p
    · refine Or.inr ⟨?_, by rw [(nat_far h1 hb).1]; decide⟩
      unfold belB
      rw [Bool.and_eq_false_iff]
      rcases hb with hb | hb
      · exact Or.inl (decide_eq_false (by omega))
      · exact Or.inr (decide_eq_false (by omega))
    · refine Or.inl ⟨(bel_iff _ _).2 (by omega), nat_good h1 hb⟩
def preW : List UInt8 := [103, 114, 97, 112, 104, 32]
theorem words_split {l : List UInt8} (h : wordsL l ≠ []) : l ≠ [] ∧ wordsL l = splitC 32 l ∧ ∀ p ∈ splitC 32 l, wordB p = true := by
  unfold wordsL at h ⊢
  by_cases h1 : l.isEmpty
  · rw [if_pos h1] at h; exact absurd rfl h
  · rw [if_neg h1] at h ⊢
    by_cases h2 : (splitC 32 l).all wordB
    · rw [if_pos h2]
      exact ⟨fun e => h1 (by rw [e]; rfl), rfl, List.all_eq_true.1 h2⟩
    · rw [if_neg h2] at h; exact absurd rfl h
theorem head_split {l : List UInt8} (h : Lib.hasPrefix l preW = true) : splitC 32 l = graphW :: splitC 32 (Lib.trimPrefix l preW) := by
  have h1 : l = graphW ++ 32 :: Lib.trimPrefix l preW := by
    unfold Lib.trimPrefix
    rw [if_pos h]
    unfold Lib.hasPrefix at h
    obtain ⟨r, hr⟩ := List.isPrefixOf_iff_prefix.1 h
    rw [← hr]
    simp [preW, graphW]
  conv => lhs; rw [h1]
  exact split_hit _ _ (by unfold NoC graphW; decide)
theorem head_no {l : List UInt8} (h : Lib.hasPrefix l preW = false) : headE l = 2 ∧ headN l = 0 ∧ headM l = 0 := by
  by_cases h3 : (wordsL l).length = 3
  · obtain ⟨a, b, c, he⟩ : ∃ a b c, wordsL l = [a, b, c] := by
      match hl : wordsL l, h3 with
      | [a, b, c], _ => exact ⟨a, b, c, rfl⟩
    obtain ⟨e1, e2, e3⟩ := head_three he
    have hs := words_split (l := l) (by rw [he]; simp)
    have ha : a ≠ graphW := by
      rintro rfl
      have hj := join_split 32 l
      rw [← hs.2.1, he] at hj
      have : Lib.hasPrefix l preW = true := by
        unfold Lib.hasPrefix
        rw [List.isPrefixOf_iff_prefix, ← hj]
        exact ⟨joinC 32 [b, c], by rw [join_cons 32 graphW (by simp)]; rfl⟩
      rw [h] at this
      cases this
    rw [if_neg (fun e => ha e.1)] at e1
    rw [e1] at e2 e3
    exact ⟨e1, e2, e3⟩
  · exact head_bad h3
theorem head_few {l : List UInt8} (h : Lib.hasPrefix l preW = true) (h2 : numsB (Lib.trimPrefix l preW) 2 = false) : headE l = 2 ∧ headN l = 0 ∧ headM l = 0 := by
  by_cases h3 : (wordsL l).length = 3
  · obtain ⟨a, b, c, he⟩ : ∃ a b c, wordsL l = [a, b, c] := by
      match hl : wordsL l, h3 with
      | [a, b, c], _ => exact ⟨a, b, c, rfl⟩
    obtain ⟨e1, e2, e3⟩ := head_three he
    obtain ⟨hs0, hs1, hs2⟩ := words_split (l := l) (by rw [he]; simp)
    rw [head_split h] at hs1 hs2
    rw [he] at hs1
    have hr : splitC 32 (Lib.trimPrefix l preW) = [b, c] := (List.cons.inj hs1).2.symm
    have hw : wordsL (Lib.trimPrefix l preW) = [b, c] := by
      rw [← hr]
      refine (words_good (fun e => ?_) rfl fun p hp => hs2 p (by simp [hp])).2
      rw [e] at hr
      have := congrArg List.length hr
      simp [splitC] at this
    have hn : ¬ (parseE b ≠ 2 ∧ parseE c ≠ 2) := fun hh => by
      have : numsB (Lib.trimPrefix l preW) 2 = true := nums_yes (by rw [hw]; rfl) (by rw [hw]; intro p hp; simp at hp; rcases hp with rfl | rfl; exact hh.1; exact hh.2)
      rw [h2] at this
      cases this
    rw [if_neg (fun e => hn e.2)] at e1
    rw [e1] at e2 e3
    exact ⟨e1, e2, e3⟩
  · exact head_bad h3
theorem head_many {l : List UInt8} (h : Lib.hasPrefix l preW = true) (h2 : numsB (Lib.trimPrefix l preW) 2 = true) : ∃ y z : Int, (wordsL (Lib.trimPrefix l preW)).map zW = [y, z] ∧
    ((belB y 4097 = true ∧ belB z 1048577 = true ∧ headE l = 0 ∧ headN l = y ∧ headM l = z) ∨ ((belB y 4097 = false ∨ belB z 1048577 = false) ∧ headE l = 3 ∧ headN l = 0 ∧ headM l = 0)) := by
  obtain ⟨g1, g2⟩ := nums_of h2
  obtain ⟨b, c, hw⟩ : ∃ b c, wordsL (Lib.trimPrefix l preW) = [b, c] := by
    match hl : wordsL (Lib.trimPrefix l preW), g1 with
    | [b, c], _ => exact ⟨b, c, rfl⟩
  obtain ⟨hs0, hs1, hs2⟩ := words_split (l := Lib.trimPrefix l preW) (by rw [hw]; simp)
  have he : wordsL l = [graphW, b, c] := by
    have e := head_split h
    rw [← hs1, hw] at e
    refine (words_good (fun e2 => ?_) e fun p hp => ?_).2
    · rw [e2] at h; cases h
    · rcases List.mem_cons.1 hp with rfl | hp
      · decide
      · exact hs2 p (by rw [← hs1, hw]; exact hp)
  have hb : parseE b ≠ 2 := g2 b (by rw [hw]; simp)
  have hc : parseE c ≠ 2 := g2 c (by rw [hw]; simp)
  obtain ⟨e1, e2, e3⟩ := head_three he
  rw [if_pos ⟨rfl, hb, hc⟩] at e1
  refine ⟨zW b, zW c, by rw [hw]; rfl, ?_⟩
  rcases bel_nat hb 4096 with ⟨b1, b2, b3⟩ | ⟨b1, b2⟩
  · rcases bel_nat hc 1048576 with ⟨c1, c2, c3⟩ | ⟨c1, c2⟩
    · rw [if_pos ⟨b2, c2⟩] at e1
      rw [if_pos e1] at e2 e3
      exact Or.inl ⟨b1, c1, e1, e2.trans b3, e3.trans c3⟩
    · rw [if_neg (fun e => c2 e.2)] at e1
      rw [if_neg (by rw [e1]; decide)] at e2 e3
      exact Or.inr ⟨Or.inr c1, e1, e2, e3⟩
  · rw [if_neg (fun e => b2 e.1)] at e1
    rw [if_neg (by rw [e1]; decide)] at e2 e3
    exact Or.inr ⟨Or.inl b1, e1, e2, e3⟩
theorem edge_few {l : List UInt8} (h : numsB l 3 = false) (n : Int) : edgeE l n = 2 ∧ edgeX l n = (0, 0, 0) := by
  by_cases h3 : (wordsL l).length = 3
  · obtain ⟨a, b, c, he⟩ : ∃ a b c, wordsL l = [a, b, c] := by
      match hl : wordsL l, h3 with
      | [a, b, c], _ => exact ⟨a, b, c, rfl⟩
    obtain ⟨e1, e2⟩ := edge_three he n
    have hn : ¬ (parseE a ≠ 2 ∧ parseE b ≠ 2 ∧ parseE c ≠ 2) := fun hh => by
      have : numsB l 3 = true := nums_yes h3 (by rw [he]; intro p hp; simp at hp; rcases hp with rfl | rfl | rfl; exact hh.1; exact hh.2.1; exact hh.2.2)
      rw [h] at this
      cases this
    rw [if_neg hn] at e1
    rw [e1] at e2
    exact ⟨e1, e2⟩
  · exact edge_bad h3 n
theorem edge_many {l : List UInt8} (h : numsB l 3 = true) (n : Int) : ∃ x y z : Int, (wordsL l).map zW = [x, y, z] ∧
    ((belB x n = true ∧ belB y n = true ∧ belB z 2147483649 = true ∧ edgeE l n = 0 ∧ edgeX l n = (x, y, z)) ∨ ((belB x n = false ∨ belB y n = false) ∧ edgeE l n = 4 ∧ edgeX l n = (0, 0, 0)) ∨
      (belB x n = true ∧ belB y n = true ∧ belB z 2147483649 = false ∧ edgeE l n = 5 ∧ edgeX l n = (0, 0, 0))) := by
  obtain ⟨g1, g2⟩ := nums_of h
  obtain ⟨a, b, c, hw⟩ : ∃ a b c, wordsL l = [a, b, c] := by
    match hl : wordsL l, g1 with
    | [a, b, c], _ => exact ⟨a, b, c, rfl⟩
  have ha : parseE a ≠ 2 := g2 a (by rw [hw]; simp)
  have hb : parseE b ≠ 2 := g2 b (by rw [hw]; simp)
  have hc : parseE c ≠ 2 := g2 c (by rw [hw]; simp)
  obtain ⟨e1, e2⟩ := edge_three hw n
  rw [if_pos ⟨ha, hb, hc⟩] at e1
  refine ⟨zW a, zW b, zW c, by rw [hw]; rfl, ?_⟩
  by_cases hn : n < 1
  · rw [if_pos hn] at e1
    rw [if_neg (by rw [e1]; decide)] at e2
    refine Or.inr (Or.inl ⟨Or.inl ?_, e1, e2⟩)
    unfold belB
    rw [Bool.and_eq_false_iff]
    by_cases h0 : 0 ≤ zW a
    · exact Or.inr (decide_eq_false (by omega))
    · exact Or.inl (decide_eq_false h0)
  rw [if_neg hn] at e1
  have k1 := bel_nat ha (n - 1)
  have k2 := bel_nat hb (n - 1)
  rw [show n - 1 + 1 = n by omega] at k1 k2
  rcases k1 with ⟨a1, a2, a3⟩ | ⟨a1, a2⟩
  · rcases k2 with ⟨b1, b2, b3⟩ | ⟨b1, b2⟩
    · rw [if_neg (fun e => e.elim (fun e => e a2) (fun e => e b2))] at e1
      rcases bel_nat hc 2147483648 with ⟨c1, c2, c3⟩ | ⟨c1, c2⟩
      · rw [if_neg (fun e => e c2)] at e1
        rw [if_pos e1, a3, b3, c3] at e2
        exact Or.inl ⟨a1, b1, c1, e1, e2⟩
      · rw [if_pos c2] at e1
        rw [if_neg (by rw [e1]; decide)] at e2
        exact Or.inr (Or.inr ⟨a1, b1, c1, e1, e2⟩)
    · rw [if_pos (Or.inr b2)] at e1
      rw [if_neg (by rw [e1]; decide)] at e2
      exact Or.inr (Or.inl ⟨Or.inr b1, e1, e2⟩)
  · rw [if_pos (Or.inl a2)] at e1
    rw [if_neg (by rw [e1]; decide)] at e2
    exact Or.inr (Or.inl ⟨Or.inl a1, e1, e2⟩)
/-! ### Lines taken off a text -/
/-- What the first piece of a text is, where it has a byte 10. -/
theorem take_line {l p r : List UInt8} (h : l = p ++ 10 :: r) (hp : NoC 10 p) : ∃ q t, splitC 10 r = q :: t ∧ splitC 10 l = p :: q :: t := by
  obtain ⟨q, t, ht⟩ : ∃ q t, splitC 10 r = q :: t := by
    cases hs : splitC 10 r with
    | nil => exact absurd hs (split_ne 10 r)
    | cons q t => exact ⟨q, t, rfl⟩
  exact ⟨q, t, ht, by rw [h, split_hit _ _ hp, ht]⟩
/-- A text that is left: what all lines tell is what those of it do. -/
theorem go_left {n m : Int} {L : List Ed} {k : Nat} {l : List UInt8} (hm : (L.length : Int) = m) : (l = [] → goR n m L k (splitC 10 l) = (0, 0, L)) ∧ (l ≠ [] → goR n m L k (splitC 10 l) = (2, (k : Int) + 1, [])) := by
  constructor
  · rintro rfl
    show goR n m L k [[]] = _
    rw [go_one, if_neg (fun e => e.elim (fun e => e rfl) (fun e => e hm))]
  · intro hl
    cases hs : splitC 10 l with
    | nil => exact absurd hs (split_ne 10 l)
    | cons p t =>
      cases t with
      | nil =>
        have hj := join_split 10 l
        rw [hs] at hj
        have hp : p ≠ [] := fun e => hl (by rw [← hj, e]; rfl)
        rw [go_one, if_pos (Or.inl hp)]
      | cons q t => rw [go_more, if_pos hm]
theorem read_none {l : List UInt8} (hp : NoC 10 l) : readP (splitC 10 l) = (2, 1, 0, []) := by rw [split_none hp]; rfl
theorem read_step {l p r : List UInt8} (h : l = p ++ 10 :: r) (hp : NoC 10 p) : (headE p ≠ 0 → readP (splitC 10 l) = (headE p, 1, 0, [])) ∧
    (headE p = 0 → readP (splitC 10 l) = ((goR (headN p) (headM p) [] 1 (splitC 10 r)).1, (goR (headN p) (headM p) [] 1 (splitC 10 r)).2.1, headN p, (goR (headN p) (headM p) [] 1 (splitC 10 r)).2.2)) := by
  obtain ⟨q, t, h1, h2⟩ := take_line h hp
  rw [h2, h1, read_more2]
  exact ⟨fun e => by rw [if_pos e], fun e => by rw [if_neg (fun e2 => e2 e)]⟩
theorem go_none {n m : Int} {L : List Ed} {k : Nat} {l : List UInt8} (hp : NoC 10 l) (hm : (L.length : Int) ≠ m) : goR n m L k (splitC 10 l) = (2, (k : Int) + 1, []) := by
  rw [split_none hp, go_one, if_pos (Or.inr hm)]
theorem go_step {n m : Int} {L : List Ed} {k : Nat} {l p r : List UInt8} (h : l = p ++ 10 :: r) (hp : NoC 10 p) (hm : (L.length : Int) ≠ m) : (edgeE p n ≠ 0 → goR n m L k (splitC 10 l) = (edgeE p n, (k : Int) + 1, [])) ∧
    (edgeE p n = 0 → goR n m L k (splitC 10 l) = goR n m (L ++ [edgeX p n]) (k + 1) (splitC 10 r)) := by
  obtain ⟨q, t, h1, h2⟩ := take_line h hp
  rw [h2, h1, go_more, if_neg hm]
  exact ⟨fun e => by rw [if_pos e], fun e => by rw [if_neg (fun e2 => e2 e)]⟩
end Go.Proofs.Ytflnmkgpmjefhaa.GrPure
/- Plain facts on a text's bytes that are digits, or not, one behind the other. No function of the program is named. -/
namespace Go.Proofs.Ytflnmkgpmjefhaa
open Go.RowKit Go.ChangeShapes DecPure
/-- Over so much of s all are digits. -/
def DigTo (s : ByteArray) (pos : Nat) : Prop := pos ≤ s.size ∧ ∀ c ∈ s.data.toList.take pos, dig c = true
theorem take_next (s : ByteArray) (k : Nat) (h : k < s.size) : s.data.toList.take (k + 1) = s.data.toList.take k ++ [s[k]] := by
  rw [List.take_succ_eq_append_getElem (by simpa using h)]; rfl
theorem digTo_next {s : ByteArray} {pos : Nat} (h : DigTo s pos) (hp : pos < s.size) (hd : dig s[pos] = true) : DigTo s (pos + 1) := by
  refine ⟨hp, fun c hc => ?_⟩
  rw [take_next s pos hp, List.mem_append] at hc
  rcases hc with hc | hc
  · exact h.2 c hc
  · simp at hc; rw [hc]; exact hd
theorem mem_at (s : ByteArray) (pos : Nat) (hp : pos < s.size) : s[pos] ∈ s.data.toList := Array.getElem_mem_toList (xs := s.data) (by simpa using hp)
theorem plain_no {s : ByteArray} {pos : Nat} (hp : pos < s.size) (hd : dig s[pos] = false) : plainB s.data.toList = false := by
  cases h : plainB s.data.toList with
  | false => rfl
  | true => have := plain_dig h _ (mem_at s pos hp); rw [hd] at this; cases this
/-- The rune at a byte that is no digit is none. -/
theorem rune_no (s : ByteArray) (pos : Nat) (hp : pos < s.size) (hd : dig s[pos] = false) : (Utf8.decode s pos).1 < 48 ∨ 57 < (Utf8.decode s pos).1 := by
  by_cases ha : (s[pos]'hp).toNat < 128
  · rw [decode_ascii s pos hp ha]
    rcases (dig_not _).1 hd with h | h
    · exact Or.inl h
    · exact Or.inr h
  · have := (decode_high s pos hp (by omega)).1
    right; omega
theorem digTo_all {s : ByteArray} {pos : Nat} (hk : pos = s.size) (h : DigTo s pos) : ∀ c ∈ s.data.toList, dig c = true := by
  intro c hc
  refine h.2 c ?_
  rw [hk, List.take_of_length_le (by simp)]
  exact hc
theorem plain_lone {s : ByteArray} (e : s.toList = [48]) : plainB s.data.toList = true := by rw [← Lib.toList_data, e]; rfl
theorem plain_void {s : ByteArray} (e : s.toList = []) : plainB s.data.toList = false := by rw [← Lib.toList_data, e]; rfl
theorem byte_ne (c : UInt8) : (((c.toNat : Nat) : Int) != 48) = !(c == 48) := by
  by_cases h : c = 48
  · subst h; decide
  · have h1 : (c == 48) = false := by simpa using h
    have h2 : ((c.toNat : Nat) : Int) ≠ 48 := fun e => h (UInt8.toNat.inj (by rw [show c.toNat = 48 by omega]; rfl))
    rw [h1, Bool.not_false, bne_iff_ne]
    exact h2
theorem size_pos {s : ByteArray} (e : ¬ s.toList = []) : 0 < s.size := by
  rw [Lib.toList_data] at e
  have := List.length_pos_iff.2 e
  simpa using this
theorem plain_head {s : ByteArray} (h : ∀ c ∈ s.data.toList, dig c = true) (e1 : ¬ s.toList = [48]) (e2 : ¬ s.toList = []) (e3 : 0 < s.size) : plainB s.data.toList = !(s[0] == 48) := by
  rw [Lib.toList_data] at e1 e2
  have hh : s.data.toList.head? = some s[0] := by
    rw [List.head?_eq_getElem?, List.getElem?_eq_getElem (by simpa using e3)]; rfl
  cases hb : (s[0] == 48) with
  | true =>
    rw [Bool.not_true, Bool.eq_false_iff, Ne, plain_iff]
    rintro ⟨-, h2 | ⟨-, h2⟩⟩
    · exact e1 h2
    · rw [hh] at h2; exact h2 (by rw [beq_iff_eq.1 hb])
  | false =>
    rw [Bool.not_false, plain_iff]
    exact ⟨h, Or.inr ⟨e2, by rw [hh]; intro e; rw [Option.some.inj e] at hb; cases hb⟩⟩
end Go.Proofs.Ytflnmkgpmjefhaa
