/- Texts that the laws of this seat stand on, part 29. -/
import Derived.Test.YtdbebebhldldmaaGreatDoorPk6
import Derived.Lib.Strings
import Derived.Shelf.Small.Strs
import Derived.Test.YtdbebebhldldmaaGreatDoorProg
import Derived.Shelf.Slices.Turned
import Derived.Test.YtdbebebhldldmaaGreatDoorPk1
import Derived.Test.YtdbebebhldldmaaGreatDoorPk0
import Derived.Deep.RegionWith
import Derived.Deep.RegionHeld3
import Derived.Deep.QuietTactic
import Derived.BigQuiet
import Derived.WalkMore
/- What the program asks of a line, plainly: words that are numbers, numbers below a bound; first lines and edges' lines told by these. No program in sight. -/
namespace Go.Proofs.YtdbebebhldldmaaGreatDoor.GrPure
open EdPure DecPure WordPure
def belB (n m : Int) : Bool := decide (0 ≤ n) && decide (n < m)
/-- A word as a number: one that 64 bits have no room for is -1. -/
def zW (p : List UInt8) : Int := if parseE p = 10 then -1 else parseN p
def numsB (l : List UInt8) (k : Nat) : Bool := decide ((wordsL l).length = k) && (wordsL l).all fun p => parseE p != 2
theorem nums_yes {l : List UInt8} {k : Nat} (h : (wordsL l).length = k) (h2 : ∀ p ∈ wordsL l, parseE p ≠ 2) : numsB l k = true := by
  unfold numsB
  rw [Bool.and_eq_true, decide_eq_true_eq, List.all_eq_true]
  exact ⟨h, fun p hp => by simpa using h2 p hp⟩
theorem nums_len {l : List UInt8} {k : Nat} (h : (wordsL l).length ≠ k) : numsB l k = false := by unfold numsB; simp [h]
theorem nums_no {l p : List UInt8} {k : Nat} (hp : p ∈ wordsL l) (h : parseE p = 2) : numsB l k = false := by
  unfold numsB
  rw [Bool.and_eq_false_iff]
  exact Or.inr (List.all_eq_false.2 ⟨p, hp, by rw [h]; decide⟩)
theorem nums_of {l : List UInt8} {k : Nat} (h : numsB l k = true) : (wordsL l).length = k ∧ ∀ p ∈ wordsL l, parseE p ≠ 2 := by
  unfold numsB at h
  rw [Bool.and_eq_true, decide_eq_true_eq, List.all_eq_true] at h
  exact ⟨h.1, fun p hp => by simpa using h.2 p hp⟩
theorem parse_three (p : List UInt8) : (parseE p = 2 ∧ parseN p = 0) ∨ (parseE p = 10 ∧ zW p = -1) ∨ (parseE p = 0 ∧ zW p = parseN p) := by
  unfold zW
  rcases parse_cases p with ⟨-, h1, h2⟩ | ⟨-, -, h1, h2⟩ | ⟨-, -, h1, h2⟩
  · exact Or.inl ⟨h1, h2⟩
  · exact Or.inr (Or.inl ⟨h1, if_pos h1⟩)
  · exact Or.inr (Or.inr ⟨h1, if_neg (by rw [h1]; decide)⟩)
theorem bel_iff (n m : Int) : belB n m = true ↔ 0 ≤ n ∧ n < m := by unfold belB; simp
theorem zW_rng (p : List UInt8) : -9223372036854775808 ≤ zW p ∧ zW p ≤ 9223372036854775807 := by
  unfold zW
  by_cases h : parseE p = 10
  · rw [if_pos h]; omega
  · rw [if_neg h]; exact parse_rng p
/-- A number below a bound is one of the document's. -/
theorem bel_nat {p : List UInt8} (h : parseE p ≠ 2) (most : Int) : (belB (zW p) (most + 1) = true ∧ natE p most = 0 ∧ natN p most = zW p) ∨ (belB (zW p) (most + 1) = false ∧ natE p most ≠ 0) := by
  rcases parse_three p with ⟨h1, h2⟩ | ⟨h1, h2⟩ | ⟨h1, h2⟩
  · exact absurd h1 h
  · refine Or.inr ⟨?_, ?_⟩
    · rw [h2]; unfold belB; simp
    · rw [(nat_bad (by rw [h1]; decide) most).1, h1]; decide
  · rw [h2]
    by_cases hb : parseN p < 0 ∨ most < parseN p
    · refine Or.inr ⟨?_, by rw [(nat_far h1 hb).1]; decide⟩
      unfold belB
      rw [Bool.and_eq_false_iff]
      rcases hb with hb | hb
      · exact Or.inl (decide_eq_false (by omega))
      · exact Or.inr (decide_eq_false (by omega))
    · refine Or.inl ⟨(bel_iff _ _).2 (by omega), nat_good h1 hb⟩
def preW : List UInt8 := [103, 114, 97, 112, 104, 32]
theorem words_split {l : List UInt8} (h : wordsL l ≠ []) : l ≠ [] ∧ wordsL l = splitC 32 l ∧ ∀ p ∈ splitC 32 l, wordB p = true := by
  unfold wordsL at h ⊢
  by_cases h1 : l.isEmpty
  · rw [if_pos h1] at h; exact absurd rfl h
  · rw [if_neg h1] at h ⊢
    by_cases h2 : (splitC 32 l).all wordB
    · rw [if_pos h2]
      exact ⟨fun e => h1 (by rw [e]; rfl), rfl, List.all_eq_true.1 h2⟩
    · rw [if_neg h2] at h; exact absurd rfl h
theorem head_split {l : List UInt8} (h : Lib.hasPrefix l preW = true) : splitC 32 l = graphW :: splitC 32 (Lib.trimPrefix l preW) := by
  have h1 : l = graphW ++ 32 :: Lib.trimPrefix l preW := by
    unfold Lib.trimPrefix
    rw [if_pos h]
    unfold Lib.hasPrefix at h
    obtain ⟨r, hr⟩ := List.isPrefixOf_iff_prefix.1 h
    rw [← hr]
    simp [preW, graphW]
  conv => lhs; rw [h1]
  exact split_hit _ _ (by unfold NoC graphW; decide)
theorem head_no {l : List UInt8} (h : Lib.hasPrefix l preW = false) : headE l = 2 ∧ headN l = 0 ∧ headM l = 0 := by
  by_cases h3 : (wordsL l).length = 3
  · obtain ⟨a, b, c, he⟩ : ∃ a b c, wordsL l = [a, b, c] := by
      match hl : wordsL l, h3 with
      | [a, b, c], _ => exact ⟨a, b, c, rfl⟩
    obtain ⟨e1, e2, e3⟩ := head_three he
    have hs := words_split (l := l) (by rw [he]; simp)
    have ha : a ≠ graphW := by
      rintro rfl
      have hj := join_split 32 l
      rw [← hs.2.1, he] at hj
      have : Lib.hasPrefix l preW = true := by
        unfold Lib.hasPrefix
        rw [List.isPrefixOf_iff_prefix, ← hj]
        exact ⟨joinC 32 [b, c], by rw [join_cons 32 graphW (by simp)]; rfl⟩
      rw [h] at this
      cases this
    rw [if_neg (fun e => ha e.1)] at e1
    rw [e1] at e2 e3
    exact ⟨e1, e2, e3⟩
  · exact head_bad h3
theorem head_few {l : List UInt8} (h : Lib.hasPrefix l preW = true) (h2 : numsB (Lib.trimPrefix l preW) 2 = false) : headE l = 2 ∧ headN l = 0 ∧ headM l = 0 := by
  by_cases h3 : (wordsL l).length = 3
  · obtain ⟨a, b, c, he⟩ : ∃ a b c, wordsL l = [a, b, c] := by
      match hl : wordsL l, h3 with
      | [a, b, c], _ => exact ⟨a, b, c, rfl⟩
    obtain ⟨e1, e2, e3⟩ := head_three he
    obtain ⟨hs0, hs1, hs2⟩ := words_split (l := l) (by rw [he]; simp)
    rw [head_split h] at hs1 hs2
    rw [he] at hs1
    have hr : splitC 32 (Lib.trimPrefix l preW) = [b, c] := (List.cons.inj hs1).2.symm
    have hw : wordsL (Lib.trimPrefix l preW) = [b, c] := by
      rw [← hr]
      refine (words_good (fun e => ?_) rfl fun p hp => hs2 p (by simp [hp])).2
      rw [e] at hr
      have := congrArg List.length hr
      simp [splitC] at this
    have hn : ¬ (parseE b ≠ 2 ∧ parseE c ≠ 2) := fun hh => by
      have : numsB (Lib.trimPrefix l preW) 2 = true := nums_yes (by rw [hw]; rfl) (by rw [hw]; intro p hp; simp at hp; rcases hp with rfl | rfl; exact hh.1; exact hh.2)
      rw [h2] at this
      cases this
    rw [if_neg (fun e => hn e.2)] at e1
    rw [e1] at e2 e3
    exact ⟨e1, e2, e3⟩
  · exact head_bad h3
theorem head_many {l : List UInt8} (h : Lib.hasPrefix l preW = true) (h2 : numsB (Lib.trimPrefix l preW) 2 = true) : ∃ y z : Int, (wordsL (Lib.trimPrefix l preW)).map zW = [y, z] ∧
    ((belB y 4097 = true ∧ belB z 1048577 = true ∧ headE l = 0 ∧ headN l = y ∧ headM l = z) ∨ ((belB y 4097 = false ∨ belB z 1048577 = false) ∧ headE l = 3 ∧ headN l = 0 ∧ headM l = 0)) := by
  obtain ⟨g1, g2⟩ := nums_of h2
  obtain ⟨b, c, hw⟩ : ∃ b c, wordsL (Lib.trimPrefix l preW) = [b, c] := by
    match hl : wordsL (Lib.trimPrefix l preW), g1 with
    | [b, c], _ => exact ⟨b, c, rfl⟩
  obtain ⟨hs0, hs1, hs2⟩ := words_split (l := Lib.trimPrefix l preW) (by rw [hw]; simp)
  have he : wordsL l = [graphW, b, c] := by
    have e := head_split h
    rw [← hs1, hw] at e
    refine (words_good (fun e2 => ?_) e fun p hp => ?_).2
    · rw [e2] at h; cases h
    · rcases List.mem_cons.1 hp with rfl | hp
      · decide
      · exact hs2 p (by rw [← hs1, hw]; exact hp)
  have hb : parseE b ≠ 2 := g2 b (by rw [hw]; simp)
  have hc : parseE c ≠ 2 := g2 c (by rw [hw]; simp)
  obtain ⟨e1, e2, e3⟩ := head_three he
  rw [if_pos ⟨rfl, hb, hc⟩] at e1
  refine ⟨zW b, zW c, by rw [hw]; rfl, ?_⟩
  rcases bel_nat hb 4096 with ⟨b1, b2, b3⟩ | ⟨b1, b2⟩
  · rcases bel_nat hc 1048576 with ⟨c1, c2, c3⟩ | ⟨c1, c2⟩
    · rw [if_pos ⟨b2, c2⟩] at e1
      rw [if_pos e1] at e2 e3
      exact Or.inl ⟨b1, c1, e1, e2.trans b3, e3.trans c3⟩
    · rw [if_neg (fun e => c2 e.2)] at e1
      rw [if_neg (by rw [e1]; decide)] at e2 e3
      exact Or.inr ⟨Or.inr c1, e1, e2, e3⟩
  · rw [if_neg (fun e => b2 e.1)] at e1
    rw [if_neg (by rw [e1]; decide)] at e2 e3
    exact Or.inr ⟨Or.inl b1, e1, e2, e3⟩
theorem edge_few {l : List UInt8} (h : numsB l 3 = false) (n : Int) : edgeE l n = 2 ∧ edgeX l n = (0, 0, 0) := by
  by_cases h3 : (wordsL l).length = 3
  · obtain ⟨a, b, c, he⟩ : ∃ a b c, wordsL l = [a, b, c] := by
      match hl : wordsL l, h3 with
      | [a, b, c], _ => exact ⟨a, b, c, rfl⟩
    obtain ⟨e1, e2⟩ := edge_three he n
    have hn : ¬ (parseE a ≠ 2 ∧ parseE b ≠ 2 ∧ parseE c ≠ 2) := fun hh => by
      have : numsB l 3 = true := nums_yes h3 (by rw [he]; intro p hp; simp at hp; rcases hp with rfl | rfl | rfl; exact hh.1; exact hh.2.1; exact hh.2.2)
      rw [h] at this
      cases this
    rw [if_neg hn] at e1
    rw [e1] at e2
    exact ⟨e1, e2⟩
  · exact edge_bad h3 n
theorem edge_many {l : List UInt8} (h : numsB l 3 = true) (n : Int) : ∃ x y z : Int, (wordsL l).map zW = [x, y, z] ∧
    ((belB x n = true ∧ belB y n = true ∧ belB z 2147483649 = true ∧ edgeE l n = 0 ∧ edgeX l n = (x, y, z)) ∨ ((belB x n = false ∨ belB y n = false) ∧ edgeE l n = 4 ∧ edgeX l n = (0, 0, 0)) ∨
      (belB x n = true ∧ belB y n = true ∧ belB z 2147483649 = false ∧ edgeE l n = 5 ∧ edgeX l n = (0, 0, 0))) := by
  obtain ⟨g1, g2⟩ := nums_of h
  obtain ⟨a, b, c, hw⟩ : ∃ a b c, wordsL l = [a, b, c] := by
    match hl : wordsL l, g1 with
    | [a, b, c], _ => exact ⟨a, b, c, rfl⟩
  have ha : parseE a ≠ 2 := g2 a (by rw [hw]; simp)
  have hb : parseE b ≠ 2 := g2 b (by rw [hw]; simp)
  have hc : parseE c ≠ 2 := g2 c (by rw [hw]; simp)
  obtain ⟨e1, e2⟩ := edge_three hw n
  rw [if_pos ⟨ha, hb, hc⟩] at e1
  refine ⟨zW a, zW b, zW c, by rw [hw]; rfl, ?_⟩
  by_cases hn : n < 1
  · rw [if_pos hn] at e1
    rw [if_neg (by rw [e1]; decide)] at e2
    refine Or.inr (Or.inl ⟨Or.inl ?_, e1, e2⟩)
    unfold belB
    rw [Bool.and_eq_false_iff]
    by_cases h0 : 0 ≤ zW a
    · exact Or.inr (decide_eq_false (by omega))
    · exact Or.inl (decide_eq_false h0)
  rw [if_neg hn] at e1
  have k1 := bel_nat ha (n - 1)
  have k2 := bel_nat hb (n - 1)
  rw [show n - 1 + 1 = n by omega] at k1 k2
  rcases k1 with ⟨a1, a2, a3⟩ | ⟨a1, a2⟩
  · rcases k2 with ⟨b1, b2, b3⟩ | ⟨b1, b2⟩
    · rw [if_neg (fun e => e.elim (fun e => e a2) (fun e => e b2))] at e1
      rcases bel_nat hc 2147483648 with ⟨c1, c2, c3⟩ | ⟨c1, c2⟩
      · rw [if_neg (fun e => e c2)] at e1
        rw [if_pos e1, a3, b3, c3] at e2
        exact Or.inl ⟨a1, b1, c1, e1, e2⟩
      · rw [if_pos c2] at e1
        rw [if_neg (by rw [e1]; decide)] at e2
        exact Or.inr (Or.inr ⟨a1, b1, c1, e1, e2⟩)
    · rw [if_pos (Or.inr b2)] at e1
      rw [if_neg (by rw [e1]; decide)] at e2
      exact Or.inr (Or.inl ⟨Or.inr b1, e1, e2⟩)
  · rw [if_pos (Or.inl a2)] at e1
    rw [if_neg (by rw [e1]; decide)] at e2
    exact Or.inr (Or.inl ⟨Or.inl a1, e1, e2⟩)
/-! ### Lines taken off a text -/
/-- What the first piece of a text is, where it has a byte 10. -/
theorem take_line {l p r : List UInt8} (h : l = p ++ 10 :: r) (hp : NoC 10 p) : ∃ q t, splitC 10 r = q :: t ∧ splitC 10 l = p :: q :: t := by
  obtain ⟨q, t, ht⟩ : ∃ q t, splitC 10 r = q :: t := by
    cases hs : splitC 10 r with
    | nil => exact absurd hs (split_ne 10 r)
    | cons q t => exact ⟨q, t, rfl⟩
  exact ⟨q, t, ht, by rw [h, split_hit _ _ hp, ht]⟩
/-- A text that is left: what all lines tell is what those of it do. -/
theorem go_left {n m : Int} {L : List Ed} {k : Nat} {l : List UInt8} (hm : (L.length : Int) = m) : (l = [] → goR n m L k (splitC 10 l) = (0, 0, L)) ∧ (l ≠ [] → goR n m L k (splitC 10 l) = (2, (k : Int) + 1, [])) := by
  constructor
  · rintro rfl
    show goR n m L k [[]] = _
    rw [go_one, if_neg (fun e => e.elim (fun e => e rfl) (fun e => e hm))]
  · intro hl
    cases hs : splitC 10 l with
    | nil => exact absurd hs (split_ne 10 l)
    | cons p t =>
      cases t with
      | nil =>
        have hj := join_split 10 l
        rw [hs] at hj
        have hp : p ≠ [] := fun e => hl (by rw [← hj, e]; rfl)
        rw [go_one, if_pos (Or.inl hp)]
      | cons q t => rw [go_more, if_pos hm]
theorem read_none {l : List UInt8} (hp : NoC 10 l) : readP (splitC 10 l) = (2, 1, 0, []) := by rw [split_none hp]; rfl
theorem read_step {l p r : List UInt8} (h : l = p ++ 10 :: r) (hp : NoC 10 p) : (headE p ≠ 0 → readP (splitC 10 l) = (headE p, 1, 0, [])) ∧
    (headE p = 0 → readP (splitC 10 l) = ((goR (headN p) (headM p) [] 1 (splitC 10 r)).1, (goR (headN p) (headM p) [] 1 (splitC 10 r)).2.1, headN p, (goR (headN p) (headM p) [] 1 (splitC 10 r)).2.2)) := by
  obtain ⟨q, t, h1, h2⟩ := take_line h hp
  rw [h2, h1, read_more2]
  exact ⟨fun e => by rw [if_pos e], fun e => by rw [if_neg (fun e2 => e2 e)]⟩
theorem go_none {n m : Int} {L : List Ed} {k : Nat} {l : List UInt8} (hp : NoC 10 l) (hm : (L.length : Int) ≠ m) : goR n m L k (splitC 10 l) = (2, (k : Int) + 1, []) := by
  rw [split_none hp, go_one, if_pos (Or.inr hm)]
theorem go_step {n m : Int} {L : List Ed} {k : Nat} {l p r : List UInt8} (h : l = p ++ 10 :: r) (hp : NoC 10 p) (hm : (L.length : Int) ≠ m) : (edgeE p n ≠ 0 → goR n m L k (splitC 10 l) = (edgeE p n, (k : Int) + 1, [])) ∧
    (edgeE p n = 0 → goR n m L k (splitC 10 l) = goR n m (L ++ [edgeX p n]) (k + 1) (splitC 10 r)) := by
  obtain ⟨q, t, h1, h2⟩ := take_line h hp
  rw [h2, h1, go_more, if_neg hm]
  exact ⟨fun e => by rw [if_pos e], fun e => by rw [if_neg (fun e2 => e2 e)]⟩
end Go.Proofs.YtdbebebhldldmaaGreatDoor.GrPure
/- The library's contract of strings.IndexByte, laid at this program. -/
namespace Go.Proofs
open Go.Shelf
def Tryz.lays137_ren : Go.Shelf.Ren := ⟨fun | 137 => 149 | 217 => 150 | 266 => 156 | n => n, fun | 9 => 9 | 5 => 5 | 3 => 3 | n => n, fun | n => n⟩
theorem Tryz.lays137 : Go.Proofs.Lays.n137 Tryz.prog Tryz.lays137_ren := {
  mixed := by kernel_rfl
  f137 := Tryz.func149.trans (congrArg some (by kernel_rfl))
  f217 := Tryz.func150.trans (congrArg some (by kernel_rfl))
  f266 := Tryz.func156.trans (congrArg some (by kernel_rfl))
  t3 := Tryz.underlying3
  a3 := Tryz.isAgg3
  z3 := Tryz.sizeOf3
  v3 := Tryz.zeroValue3
  t5 := Tryz.underlying5
  a5 := Tryz.isAgg5
  z5 := Tryz.sizeOf5
  v5 := Tryz.zeroValue5
  t9 := Tryz.underlying9
  a9 := Tryz.isAgg9
  z9 := Tryz.sizeOf9
  v9 := Tryz.zeroValue9 }
open Go.RowKit in
theorem Tryz.strings_IndexByte (s : ByteArray) (c : Int) (w : World) :
    Calls Tryz.prog 149 #[.string s, .int .u8 c] w fun e w' => e = .returned (.int .i64 (Lib.indexByte s.data.toList c.toNat.toUInt8)) ∧ w' = w := Any.strings_IndexByte Tryz.lays137 s c w
end Go.Proofs
/- The library's contracts of slices.Index at texts, laid at this program. -/
namespace Go.Proofs
open Go.Shelf
end Go.Proofs
/- Contracts of word's small functions: whether a text is a word, whether all its bytes are seen, the place of a key. -/
namespace Go.Proofs.YtdbebebhldldmaaGreatDoor.Wd
open Go.RowKit Go.ChangeShapes WordPure Str
theorem idx_cases (l : List UInt8) (c : UInt8) : (Lib.indexByte l c < 0 ∧ NoC c l) ∨ (0 ≤ Lib.indexByte l c ∧ ¬ NoC c l) := by
  induction l with
  | nil => exact Or.inl ⟨by unfold Lib.indexByte; decide, fun c hc => by simp at hc⟩
  | cons b r ih =>
    by_cases hb : b = c
    · refine Or.inr ⟨?_, fun h => h b (by simp) hb⟩
      unfold Lib.indexByte; rw [if_pos (by simpa using hb)]; decide
    · have hbe : (b == c) = false := beq_eq_false_iff_ne.2 hb
      have hu : Lib.indexByte (b :: r) c = if Lib.indexByte r c == -1 then -1 else Lib.indexByte r c + 1 := by
        conv => lhs; unfold Lib.indexByte
        rw [hbe]; rfl
      have hge := Lib.indexByte_ge r c
      rcases ih with ⟨h1, h2⟩ | ⟨h1, h2⟩
      · refine Or.inl ⟨?_, fun x hx => ?_⟩
        · rw [hu, if_pos (by rw [beq_iff_eq]; omega)]; decide
        · rw [List.mem_cons] at hx
          rcases hx with hx | hx
          · rw [hx]; exact hb
          · exact h2 x hx
      · refine Or.inr ⟨?_, fun h => h2 fun x hx => h x (by simp [hx])⟩
        rw [hu, if_neg (by rw [beq_iff_eq]; omega)]; omega
theorem word_false {l : List UInt8} (h : l = [] ∨ ¬ NoC 10 l ∨ ¬ NoC 32 l) : wordB l = false := by
  rw [Bool.eq_false_iff]
  intro e
  obtain ⟨h1, h2, h3⟩ := (word_iff l).1 e
  rcases h with h | h | h
  · exact h1 h
  · exact h h2
  · exact h h3
set_option maxHeartbeats 400000 in
theorem isWord_any (s : ByteArray) (w : World) :
    Calls Tryz.prog 139 #[.string s] w fun e w' => e = .returned (.bool (wordB s.data.toList)) ∧ Below w.heap.size w w' := by
  have H1 := Lib.hid (fun w => Tryz.strings_IndexByte s 10 w)
  have H2 := Lib.hid (fun w => Tryz.strings_IndexByte s 32 w)
  have e10 : (10 : Int).toNat.toUInt8 = 10 := rfl
  have e32 : (32 : Int).toNat.toUInt8 = 32 := rfl
  rw [e10] at H1
  rw [e32] at H2
  clear e10 e32
  by_cases h0 : s.data.toList = []
  · have HR : Hid (wordB s.data.toList = false) := Lib.hid (word_false (Or.inl h0))
    have t0 : s.toList = [] := by rw [Lib.toList_data]; exact h0
    clear h0
    go_enter Tryz.func139, Tryz.ntmps139
    go_wp2_with fail
    go_ret
    exact ⟨bool_ret HR.out.symm, Below.refl _ _⟩
  · have t0 : ¬ s.toList = [] := by rw [Lib.toList_data]; exact h0
    have HE : Hid (s.toList.isEmpty = false) := Lib.hid (by cases hh : s.toList with | nil => exact absurd hh t0 | cons a b => rfl)
    rcases idx_cases s.data.toList 10 with ⟨h1, h1'⟩ | ⟨h1, h1'⟩
    · rcases idx_cases s.data.toList 32 with ⟨h2, h2'⟩ | ⟨h2, h2'⟩
      · have HR : Hid (wordB s.data.toList = true) := Lib.hid ((word_iff _).2 ⟨h0, h1', h2'⟩)
        clear h0 h1' h2'
        generalize Lib.indexByte s.data.toList 10 = n1 at *
        generalize Lib.indexByte s.data.toList 32 = n2 at *
        go_enter Tryz.func139, Tryz.ntmps139
        go_wp2_with (first | (go_at_call 149; go_fit (H1.out _); rintro e w' ⟨rfl, rfl⟩) | (go_at_call 149; go_fit (H2.out _); rintro e w' ⟨rfl, rfl⟩))
        go_ret
        exact ⟨bool_ret (by rw [HR.out, HE.out]; rfl), Below.refl _ _⟩
      · have HR : Hid (wordB s.data.toList = false) := Lib.hid (word_false (Or.inr (Or.inr h2')))
        have g2 : ¬ Lib.indexByte s.data.toList 32 < 0 := by omega
        have HG2 := Lib.hid g2
        clear h0 h1' h2' h2
        generalize Lib.indexByte s.data.toList 10 = n1 at *
        generalize Lib.indexByte s.data.toList 32 = n2 at *
        go_enter Tryz.func139, Tryz.ntmps139
        go_wp2_with fail
        refine (H1.out _).mono ?_
        rintro e w' ⟨rfl, rfl⟩
        go_wp2_with fail
        refine (H2.out _).mono ?_
        rintro e w' ⟨rfl, rfl⟩
        go_wp2
        go_ret
        exact ⟨bool_ret (by rw [HR.out, HE.out, decide_eq_false (Int.not_lt.2 HG2.out)]; rfl), Below.refl _ _⟩
    · have HR : Hid (wordB s.data.toList = false) := Lib.hid (word_false (Or.inr (Or.inl h1')))
      have g1 : ¬ Lib.indexByte s.data.toList 10 < 0 := by omega
      clear h0 h1' h1
      generalize Lib.indexByte s.data.toList 10 = n1 at *
      go_enter Tryz.func139, Tryz.ntmps139
      go_wp2_with fail
      refine (H1.out _).mono ?_
      rintro e w' ⟨rfl, rfl⟩
      go_wp2
      go_ret
      exact ⟨bool_ret HR.out.symm, Below.refl _ _⟩
/-- So much of a text is seen. -/
def SeenTo (s : ByteArray) (k : Nat) : Prop := k ≤ s.size ∧ ∀ c ∈ s.data.toList.take k, vis c = true
theorem seenTo_next {s : ByteArray} {k : Nat} (h : SeenTo s k) (hk : k < s.size) (hd : vis s[k] = true) : SeenTo s (k + 1) := by
  refine ⟨hk, fun c hc => ?_⟩
  rw [take_succ' _ k (by rw [← Lib.size_eq]; exact hk), List.mem_append] at hc
  rcases hc with hc | hc
  · exact h.2 c hc
  · rw [List.mem_singleton.1 hc]; exact hd
theorem seenTo_all {s : ByteArray} {k : Nat} (h : SeenTo s k) (hk : ¬ k < s.size) : seenB s.data.toList = true := by
  have e := h.2
  rw [List.take_of_length_le (by rw [← Lib.size_eq]; omega)] at e
  exact List.all_eq_true.2 e
theorem seen_out {s : ByteArray} {k : Nat} (hk : k < s.size) (hd : vis s[k] = false) : seenB s.data.toList = false := seen_bad (Array.getElem_mem_toList (xs := s.data) (by simpa using hk)) hd
/-- The place of a key. -/
def keyI (l : List (List UInt8)) (x : List UInt8) : Int := Lib.idxOfS (l.map fun p => ⟨p.toArray⟩) ⟨x.toArray⟩
end Go.Proofs.YtdbebebhldldmaaGreatDoor.Wd
/- A block of one cell (a variable that a closure captures): what lies in it, over calls and stores. No function of the program is named. -/
namespace Go.Proofs.YtdbebebhldldmaaGreatDoor
open Go.RowKit Go.ChangeShapes
def CellAt (N : Nat) (w : World) (v : Value) : Prop := w.cell? ⟨N, 0, none⟩ = some v ∧ w.frozen? ⟨N, 0, none⟩ = false
theorem CellAt.lt {N : Nat} {w : World} {v : Value} (h : CellAt N w v) : N < w.heap.size := World.block_lt_of_cell? w _ h.1
theorem CellAt.on {N M : Nat} {w w' : World} {v : Value} (h : CellAt N w v) (hb : Below M w w') (hM : N < M) : CellAt N w' v :=
  ⟨(hb.cell (by exact hM)).trans h.1, (hb.frozen (by exact hM)).trans h.2⟩
theorem CellAt.keep {N : Nat} {w w' : World} {v : Value} (h : CellAt N w v) (hb : Below w.heap.size w w') : CellAt N w' v := h.on hb h.lt
theorem CellAt.new (w : World) (v : Value) (T : TypeId) : CellAt w.heap.size (w.alloc (.cells #[v] T)) v := ⟨by simp, by simp⟩
theorem CellAt.set {N : Nat} {w : World} {v : Value} (h : CellAt N w v) (u : Value) : CellAt N (w.setCell ⟨N, 0, none⟩ u) u :=
  ⟨World.cell?_setCell_same _ _ _ h.1, by simpa using h.2⟩
theorem CellAt.past {N M : Nat} {w : World} {v : Value} (h : CellAt N w v) (hM : M ≠ N) (u : Value) : CellAt N (w.setCell ⟨M, 0, none⟩ u) v :=
  ⟨(World.cell?_setCell_other w ⟨M, 0, none⟩ ⟨N, 0, none⟩ _ (fun e => hM (congrArg Addr.block e))).trans h.1, by simpa using h.2⟩
end Go.Proofs.YtdbebebhldldmaaGreatDoor
/- Contracts of word's cutting of a text: what each closure takes, the loop that cuts, the lines and the words of a text. -/
namespace Go.Proofs.YtdbebebhldldmaaGreatDoor.Wd
open Go.RowKit Go.ChangeShapes WordPure Str
/-- What a closure has gathered in its variable, at block N. -/
def Gath (N : Nat) (w0 w : World) (xs : List (List UInt8)) : Prop :=
  Below N w0 w ∧ ∃ v, CellAt N w v ∧ w.ownsRow (N + 1) 9 1 v xs.length (xs.map encS)
theorem Gath.start (w : World) : Gath w.heap.size w (w.alloc (.cells #[.slice none 0 0] 113)) [] :=
  ⟨(Below.refl _ _).alloc (Nat.le_refl _) _, _, CellAt.new _ _ _, World.ownsRow_nil _ _ _ _⟩
theorem Gath.keep {N : Nat} {w0 w w' : World} {xs : List (List UInt8)} (h : Gath N w0 w xs) (hb : Below w.heap.size w w') : Gath N w0 w' xs := by
  obtain ⟨h1, v, h2, h3⟩ := h
  exact ⟨h1.trans (hb.mono (Nat.le_of_lt h2.lt)), v, h2.keep hb, owns_below h3 hb⟩
theorem Gath.step {N : Nat} {w0 w w' : World} {xs : List (List UInt8)} {v v' : Value} {o : Obj} (h1 : Below N w0 w) (h2 : CellAt N w v) (h3 : w.ownsRow (N + 1) 9 1 v xs.length (xs.map encS)) (x : List UInt8)
    (g1 : w'.ownsRow (N + 1) 9 1 v' (xs.length + 1) (xs.map encS ++ [encS x])) (g2 : (w.alloc o).grownBy w' v.ownBlock) : Gath N w0 (w'.setCell ⟨N, 0, none⟩ v') (xs ++ [x]) := by
  have hlt := h2.lt
  have hs : (w.alloc o).heap.size = w.heap.size + 1 := by simp
  have b1 : Below (N + 1) w w' := ((Below.refl (N + 1) w).alloc (by omega) o).grown g2 (by rw [hs]; omega) fun j hj => by have := (h3.lt j hj).1; omega
  have b1' : Below N w w' := b1.mono (by omega)
  have b2 : Below N w (w'.setCell ⟨N, 0, none⟩ v') := b1'.setCell (p := ⟨N, 0, none⟩) (Nat.le_refl N) v'
  refine ⟨h1.trans b2, v', (h2.on b1 (by omega)).set v', ?_⟩
  rw [List.map_append, List.length_append]
  exact owns_setCell g1 (by show N < N + 1; omega) v'
theorem Gath.reads {N : Nat} {w0 w : World} {xs : List (List UInt8)} (h : Gath N w0 w xs) : ∃ p cap, CellAt N w (.slice p xs.length cap) ∧ ReadsL encS w.heap.size w p xs ∧ xs.length ≤ cap := by
  obtain ⟨h1, v, h2, h3⟩ := h
  obtain ⟨p, cap, rfl, hr, hc⟩ := owns_readsL rfl h3
  exact ⟨p, cap, h2, hr, hc⟩
theorem byte_eq (c : UInt8) (n : Nat) (hn : n < 256) : ((c.toNat : Nat) : Int) = (n : Int) ↔ c = UInt8.ofNat n := by
  constructor
  · intro h
    apply UInt8.toNat.inj
    have : (UInt8.ofNat n).toNat = n := by simp; omega
    rw [this]; omega
  · intro h
    subst h
    have : (UInt8.ofNat n).toNat = n := by simp; omega
    rw [this]
/-- At the head of a round of cut. -/
def CutRel (c : UInt8) (N : Nat) (w0 : World) (l : List UInt8) (d : List (List UInt8)) (f k : Nat) (w : World) : Prop := At c l d f k ∧ Gath N w0 w d
end Go.Proofs.YtdbebebhldldmaaGreatDoor.Wd
