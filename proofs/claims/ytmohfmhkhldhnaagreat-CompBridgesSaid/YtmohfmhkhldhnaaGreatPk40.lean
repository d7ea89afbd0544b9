/- Texts that the laws of this seat stand on, part 40. -/
import Derived.Test.YtmohfmhkhldhnaaGreatPk39
import Derived.Test.YtmohfmhkhldhnaaGreatPk12
import Derived.Test.YtmohfmhkhldhnaaGreatPk16
import Derived.Test.YtmohfmhkhldhnaaGreatPk25
import Derived.Test.YtmohfmhkhldhnaaGreatPk33
import Derived.Test.YtmohfmhkhldhnaaGreatPk23
/- Graphs as texts, plainly: a graph's text is read as the graph. No program in sight. -/
namespace Go.Proofs.YtmohfmhkhldhnaaGreat.GpPure
open EdPure DecPure WordPure GrPure NtPure
open Go.Lib (itoa)
theorem itoa_bytes (n : Int) : itoa n ≠ [] ∧ ∀ c ∈ itoa n, c = 45 ∨ dig c = true := by
  have h := (form_iff _).1 (itoa_form n).1
  have hd := plain_dig h.1
  have hne := plain_ne h.1
  cases hn : negB (itoa n) with
  | true =>
    rw [neg_true hn]
    refine ⟨by simp, fun c hc => ?_⟩
    rw [List.mem_cons] at hc
    rcases hc with hc | hc
    · exact Or.inl hc
    · exact Or.inr (hd c hc)
  | false =>
    rw [neg_false hn] at hd hne
    exact ⟨hne, fun c hc => Or.inr (hd c hc)⟩
theorem itoa_no (n : Int) {c : UInt8} (hc : dig c = false) (h : c ≠ 45) : NoC c (itoa n) := by
  intro x hx e
  rcases (itoa_bytes n).2 x hx with h1 | h1
  · exact h (e.symm.trans h1)
  · rw [e, hc] at h1; cases h1
theorem itoa_word (n : Int) : wordB (itoa n) = true := (word_iff _).2 ⟨(itoa_bytes n).1, itoa_no n (by decide) (by decide), itoa_no n (by decide) (by decide)⟩
theorem itoa_size {n : Int} (h : In n) : (itoa n).length ≤ 20 := by
  refine itoa_len (itoa_form n).1 ?_
  rw [(itoa_form n).2]
  exact (fits_iff n).2 h
theorem nat_in {n most : Int} (h : 0 ≤ n ∧ n ≤ most) (hm : n ≤ 9223372036854775807) : parseE (itoa n) ≠ 2 ∧ natE (itoa n) most = 0 ∧ natN (itoa n) most = n := by
  obtain ⟨e1, e2⟩ := parse_itoa n ⟨by omega, hm⟩
  have := nat_good (most := most) e1 (by rw [e2]; omega)
  rw [e2] at this
  exact ⟨by rw [e1]; decide, this⟩
/-- Numbers with one blank between two. -/
def nums (l : List Int) : List UInt8 := joinC 32 (l.map itoa)
def lineE (e : Ed) : List UInt8 := nums [e.1, e.2.1, e.2.2]
def headT (n m : Int) : List UInt8 := graphW ++ 32 :: nums [n, m]
/-- The lines of edges. -/
def linesP (L : List Ed) : List UInt8 := (L.map fun e => lineE e ++ [10]).flatten
/-- The text of vertices and edges. -/
def textP (n : Int) (L : List Ed) : List UInt8 := headT n L.length ++ 10 :: linesP L
theorem nums_no (l : List Int) {c : UInt8} (hc : dig c = false) (h : c ≠ 45) (h2 : (32 : UInt8) ≠ c) : NoC c (nums l) := by
  refine join_noC h2 fun p hp => ?_
  obtain ⟨n, -, rfl⟩ := List.mem_map.1 hp
  exact itoa_no n hc h
theorem head_words (n m : Int) : wordsL (headT n m) = [graphW, itoa n, itoa m] := by
  have : headT n m = joinC 32 [graphW, itoa n, itoa m] := rfl
  rw [this]
  refine (words_join fun p hp => ?_).2
  simp only [List.mem_cons, List.not_mem_nil, or_false] at hp
  rcases hp with rfl | rfl | rfl
  · decide
  · exact itoa_word n
  · exact itoa_word m
theorem edge_words (e : Ed) : wordsL (lineE e) = [itoa e.1, itoa e.2.1, itoa e.2.2] := by
  refine (words_join fun p hp => ?_).2
  obtain ⟨n, -, rfl⟩ := List.mem_map.1 hp
  exact itoa_word n
theorem head_back {n m : Int} (hn : 0 ≤ n ∧ n ≤ 4096) (hm : 0 ≤ m ∧ m ≤ 1048576) : headE (headT n m) = 0 ∧ headN (headT n m) = n ∧ headM (headT n m) = m := by
  obtain ⟨h1, h2, h3⟩ := head_three (head_words n m)
  obtain ⟨a1, a2, a3⟩ := nat_in hn (by omega)
  obtain ⟨b1, b2, b3⟩ := nat_in hm (by omega)
  have h0 : headE (headT n m) = 0 := by rw [h1, if_pos ⟨rfl, a1, b1⟩, if_pos ⟨a2, b2⟩]
  exact ⟨h0, by rw [h2, if_pos h0, a3], by rw [h3, if_pos h0, b3]⟩
theorem chk_rng {n : Int} {e : Ed} (h : chkE n e = 0) : (0 ≤ e.1 ∧ e.1 < n) ∧ (0 ≤ e.2.1 ∧ e.2.1 < n) ∧ 0 ≤ e.2.2 ∧ e.2.2 ≤ 2147483648 := by
  unfold chkE at h
  split at h
  · next h1 =>
    split at h
    · next h2 => exact ⟨h1.1, h1.2, h2.1, h2.2⟩
    · omega
  · omega
theorem edge_back {n : Int} (hn : n ≤ 4096) {e : Ed} (h : chkE n e = 0) : edgeE (lineE e) n = 0 ∧ edgeX (lineE e) n = e := by
  obtain ⟨r1, r2, r3⟩ := chk_rng h
  obtain ⟨h1, h2⟩ := edge_three (edge_words e) n
  obtain ⟨a1, a2, a3⟩ := nat_in (n := e.1) (most := n - 1) (by omega) (by omega)
  obtain ⟨b1, b2, b3⟩ := nat_in (n := e.2.1) (most := n - 1) (by omega) (by omega)
  obtain ⟨c1, c2, c3⟩ := nat_in r3 (by omega)
  have h0 : edgeE (lineE e) n = 0 := by
    rw [h1, if_pos ⟨a1, b1, c1⟩, if_neg (by omega), if_neg (by rw [a2, b2]; simp), if_neg (by rw [c2]; simp)]
  exact ⟨h0, by rw [h2, if_pos h0, a3, b3, c3]⟩
theorem split_lines (L : List Ed) : splitC 10 (linesP L) = L.map lineE ++ [[]] := by
  induction L with
  | nil => rfl
  | cons e L ih =>
    have : linesP (e :: L) = lineE e ++ 10 :: linesP L := by unfold linesP; simp
    rw [this, split_hit (lineE e) _ (nums_no _ (by decide) (by decide) (by decide)), ih]
    rfl
theorem head_no (n m : Int) : NoC 10 (headT n m) := by
  have : headT n m = joinC 32 [graphW, itoa n, itoa m] := rfl
  rw [this]
  refine join_noC (by decide) fun p hp => ?_
  simp only [List.mem_cons, List.not_mem_nil, or_false] at hp
  rcases hp with rfl | rfl | rfl
  · intro x hx e
    rw [e] at hx
    exact absurd hx (by decide)
  · exact itoa_no n (by decide) (by decide)
  · exact itoa_no m (by decide) (by decide)
/-- What is printed is read. -/
theorem read_back {n : Int} {L : List Ed} (hn : 0 ≤ n ∧ n ≤ 4096) (hL : L.length ≤ 1048576) (hc : ∀ e ∈ L, chkE n e = 0) (hs : (textP n L).length ≤ 16777216) : readR (textP n L) = (0, 0, n, L) := by
  obtain ⟨h1, h2, h3⟩ := head_back (m := (L.length : Int)) hn (by omega)
  have hD : ∀ d ∈ L.map lineE, edgeE d n = 0 := fun d hd => by
    obtain ⟨e, he, rfl⟩ := List.mem_map.1 hd
    exact (edge_back hn.2 (hc e he)).1
  have hX : ((L.map lineE).map fun d => edgeX d n) = L := by
    rw [List.map_map]
    conv => rhs; rw [← List.map_id L]
    exact List.map_congr_left fun e he => (edge_back hn.2 (hc e he)).2
  have hgo : goR n (L.length : Int) [] 1 (L.map lineE ++ [[]]) = (0, 0, L) := by
    rw [go_run (L.map lineE) hD (by simp) (by simp), hX, List.nil_append, go_one, if_neg (by simp)]
  unfold readR
  rw [if_neg (by omega)]
  have hsp : splitC 10 (textP n L) = headT n L.length :: (L.map lineE ++ [[]]) := by
    unfold textP
    rw [split_hit _ _ (head_no n _), split_lines]
  rw [hsp]
  obtain ⟨q, r, hqr⟩ : ∃ q r, L.map lineE ++ [[]] = q :: r := by
    cases h : L.map lineE ++ [[]] with
    | nil => simp at h
    | cons q r => exact ⟨q, r, rfl⟩
  rw [hqr, read_more2, if_neg (by rw [h1]; simp), ← hqr, h2, h3, hgo]
theorem nums_size {l : List Int} (h : ∀ n ∈ l, In n) : (nums l).length ≤ 21 * l.length := by
  unfold nums
  induction l with
  | nil => simp [joinC]
  | cons x r ih =>
    have hx := itoa_size (h x (by simp))
    have hr := ih fun y hy => h y (by simp [hy])
    cases r with
    | nil => simp only [List.map_cons, List.map_nil, joinC, List.length_cons, List.length_nil]; omega
    | cons y t =>
      simp only [List.map_cons] at hr ⊢
      rw [WordPure.join_cons 32 (itoa x) (by simp)]
      simp only [List.length_append, List.length_cons] at hr ⊢
      omega
theorem line_size {e : Ed} (h : InE e) : (lineE e).length ≤ 63 := nums_size (l := [e.1, e.2.1, e.2.2]) fun n hn => by
  simp only [List.mem_cons, List.not_mem_nil, or_false] at hn
  rcases hn with rfl | rfl | rfl
  · exact h.1
  · exact h.2.1
  · exact h.2.2
theorem lines_size {L : List Ed} (h : InL L) : (linesP L).length ≤ 64 * L.length := by
  induction L with
  | nil => simp [linesP]
  | cons e L ih =>
    have h1 := line_size (h e (by simp))
    have h2 := ih fun x hx => h x (by simp [hx])
    have : linesP (e :: L) = lineE e ++ 10 :: linesP L := by unfold linesP; simp
    rw [this]
    simp only [List.length_append, List.length_cons]
    omega
theorem head_size {n m : Int} (hn : In n) (hm : In m) : (headT n m).length ≤ 48 := by
  have := nums_size (l := [n, m]) fun x hx => by
    simp only [List.mem_cons, List.not_mem_nil, or_false] at hx
    rcases hx with rfl | rfl
    · exact hn
    · exact hm
  unfold headT
  simp only [List.length_append, List.length_cons] at this ⊢
  have : graphW.length = 5 := rfl
  simp only [List.length_nil] at *
  omega
theorem text_size {n : Int} {L : List Ed} (hn : In n) (hl : L.length ≤ 1048576) (h : InL L) : (textP n L).length ≤ 49 + 64 * L.length := by
  have h1 := head_size (m := (L.length : Int)) hn (by unfold In; omega)
  have h2 := lines_size h
  unfold textP
  simp only [List.length_append, List.length_cons]
  omega
theorem chk_in {n : Int} (hn : n ≤ 4096) {e : Ed} (h : chkE n e = 0) : InE e := by
  obtain ⟨r1, r2, r3⟩ := chk_rng h
  unfold InE In
  omega
/-- Pieces may be edges. -/
theorem split_chk {n : Int} {M : List Ed} (h : GoodN n M) : ∀ e ∈ splitL M, chkE n e = 0 := by
  intro x hx
  unfold splitL at hx
  obtain ⟨e, he, hx⟩ := List.mem_flatMap.1 hx
  obtain ⟨h0, h1, h2⟩ := h.2.1 e he
  have hlt := (h.1.2 e he).1
  have key : x.1 = e.1 ∧ x.2.1 = e.2.1 ∧ 0 ≤ x.2.2 ∧ x.2.2 ≤ 2147483648 := by
    unfold piecesE at hx
    rcases List.mem_append.1 hx with hx | hx
    · rw [List.eq_of_mem_replicate hx]
      exact ⟨rfl, rfl, by simp, by simp⟩
    · rw [List.mem_singleton] at hx
      rw [hx]
      refine ⟨rfl, rfl, ?_, ?_⟩ <;> (unfold quoE; simp only; omega)
  unfold chkE
  rw [if_pos (by omega), if_pos (by omega)]
/-- What is split is merged again. -/
theorem split_back {n : Int} {M : List Ed} (h : GoodN n M) : mergeE (splitL M) = some M := by
  have hin : InL M := fun x hx => (h.1.2 x hx).2
  obtain ⟨M', g1, g2, g3, g4⟩ := gath_all (split_in hin h.non) (split_non h.non) (by rw [split_all]; have := h.2.2; omega)
  have : M' = M := good_ext g2.1 h.1.1 (fun u v => by rw [g3, split_has, good_has h.1]) (fun u v => by rw [g4, split_sum, good_sum h.1])
  unfold mergeE
  rw [g1, this]
  show some (nonz M) = _
  rw [nonz_id fun x hx => by have := (h.2.1 x hx).2.2; omega]
/-- There and back: a graph's text is read as the graph. -/
theorem print_back {n : Nat} (hn : n ≤ 4096) {M : List Ed} (h : GoodN n M) (hc : cntL M ≤ 1048576) (hs : (textP n (splitL M)).length ≤ 16777216) :
    readR (textP n (splitL M)) = (0, 0, (n : Int), splitL M) ∧ mergeE (splitL M) = some M :=
  ⟨read_back (by omega) (by rw [EdPure.split_len]; exact hc) (split_chk h) hs, split_back h⟩
/-! ### The other texts -/
/-- The lines of vertices that are in no edge, of the first k. -/
def isoP (M : List Ed) (k : Nat) : List UInt8 := ((List.range k).map fun v : Nat => if nearE M (v : Int) = [] then itoa (v : Int) ++ [59, 10] else []).flatten
def dotE (e : Ed) : List UInt8 := itoa e.1 ++ [32, 45, 45, 32] ++ itoa e.2.1 ++ [32, 91] ++ itoa e.2.2 ++ [93, 59, 10]
def dotsP (L : List Ed) : List UInt8 := (L.map dotE).flatten
def dotP (n : Nat) (M : List Ed) : List UInt8 := [103, 114, 97, 112, 104, 32, 123, 10] ++ isoP M n ++ dotsP M ++ [125, 10]
/-- What is between a vertex and the first k ones. -/
def rowL (M : List Ed) (u : Int) (k : Nat) : List Int := (List.range k).map fun v : Nat => weiE M u (v : Int)
def rowsP (n : Nat) (M : List Ed) (k : Nat) : List UInt8 := ((List.range k).map fun u : Nat => nums (rowL M (u : Int) n) ++ [10]).flatten
theorem iso_succ (M : List Ed) (k : Nat) : isoP M (k + 1) = isoP M k ++ if nearE M (k : Int) = [] then itoa (k : Int) ++ [59, 10] else [] := by
  unfold isoP; rw [List.range_succ, List.map_append, List.flatten_append]; simp
theorem row_succ (M : List Ed) (u : Int) (k : Nat) : rowL M u (k + 1) = rowL M u k ++ [weiE M u (k : Int)] := by
  unfold rowL; rw [List.range_succ, List.map_append]; rfl
theorem row_len (M : List Ed) (u : Int) (k : Nat) : (rowL M u k).length = k := by unfold rowL; simp
theorem rows_succ (n : Nat) (M : List Ed) (k : Nat) : rowsP n M (k + 1) = rowsP n M k ++ (nums (rowL M (k : Int) n) ++ [10]) := by
  unfold rowsP; rw [List.range_succ, List.map_append, List.flatten_append]; simp
theorem lines_snoc (L : List Ed) (e : Ed) : linesP (L ++ [e]) = linesP L ++ (lineE e ++ [10]) := by unfold linesP; simp
theorem dots_snoc (L : List Ed) (e : Ed) : dotsP (L ++ [e]) = dotsP L ++ dotE e := by unfold dotsP; simp
theorem lines_take {L : List Ed} {k : Nat} (hk : k < L.length) : linesP (L.take (k + 1)) = linesP (L.take k) ++ (lineE L[k] ++ [10]) := by
  rw [List.take_succ_eq_append_getElem hk, lines_snoc]
theorem dots_take {L : List Ed} {k : Nat} (hk : k < L.length) : dotsP (L.take (k + 1)) = dotsP (L.take k) ++ dotE L[k] := by
  rw [List.take_succ_eq_append_getElem hk, dots_snoc]
theorem iso_size (M : List Ed) {k : Nat} (hk : k ≤ 1000000) : (isoP M k).length ≤ 22 * k := by
  induction k with
  | zero => simp [isoP]
  | succ k ih =>
    rw [iso_succ, List.length_append]
    have h1 := ih (by omega)
    split
    · have := itoa_size (n := (k : Int)) (by unfold In; omega)
      simp only [List.length_append, List.length_cons, List.length_nil]
      omega
    · simp only [List.length_nil]; omega
theorem dots_size {L : List Ed} (h : InL L) : (dotsP L).length ≤ 80 * L.length := by
  induction L with
  | nil => simp [dotsP]
  | cons e L ih =>
    have h2 := ih fun x hx => h x (by simp [hx])
    have he := h e (by simp)
    have a := itoa_size he.1
    have b := itoa_size he.2.1
    have c := itoa_size he.2.2
    have : dotsP (e :: L) = dotE e ++ dotsP L := by unfold dotsP; simp
    rw [this]
    simp only [dotE, List.length_append, List.length_cons, List.length_nil]
    omega
theorem rows_size {n : Nat} {M : List Ed} (h : ∀ u v, In (weiE M u v)) (k : Nat) : (rowsP n M k).length ≤ (21 * n + 1) * k := by
  induction k with
  | zero => simp [rowsP]
  | succ k ih =>
    rw [rows_succ]
    have := nums_size (l := rowL M (k : Int) n) fun x hx => by
      obtain ⟨v, -, rfl⟩ := List.mem_map.1 hx
      exact h _ _
    rw [row_len] at this
    simp only [List.length_append, List.length_cons, List.length_nil]
    rw [Nat.mul_succ]
    omega
end Go.Proofs.YtmohfmhkhldhnaaGreat.GpPure
/- Graphs that are printed and read again, plainly: how many lines they have, and that they are as they were. No program in sight. -/
namespace Go.Proofs.YtmohfmhkhldhnaaGreat.GpPure
open EdPure DecPure WordPure GrPure NtPure
/-- Merged edges are no more lines than twice the edges. -/
theorem cnt_small {n : Int} {L M : List Ed} (hn : n ≤ 4096) (hc : ∀ e ∈ L, chkE n e = 0) (hl : L.length ≤ 1048576) (hm : mergeE L = some M) : cntL M ≤ 2 * L.length ∧ M.length ≤ L.length ∧ GoodN n M := by
  have hin : InL L := fun e he => chk_in hn (hc e he)
  obtain ⟨M', h1, h2, h3⟩ := merged hin hc hl
  obtain rfl := Option.some.inj (h1.symm.trans hm)
  have hnn : NonNeg L := fun e he => (chk_rng (hc e he)).2.2.1
  have hall := allW_le (fun e he => (chk_rng (hc e he)).2.2.2) (by omega) (Nat.le_refl L.length)
  obtain ⟨G, hG, hGe⟩ : ∃ G, gathM L = some G ∧ nonz G = M' := by
    unfold mergeE at hm
    cases hg : gathM L with
    | none => rw [hg] at hm; cases hm
    | some G => rw [hg] at hm; exact ⟨G, rfl, Option.some.inj hm⟩
  have hle := gath_le hnn L.length (Nat.le_refl _) (M := G) (by rw [List.take_length]; exact hG)
  rw [List.take_length] at hle
  have haM : allW M' = allW G := by rw [← hGe, nonz_all]
  have hcb := cnt_bound (l := M') h2.non
  refine ⟨?_, h3, h2⟩
  have : (cntL M' : Int) * 2147483648 ≤ (L.length : Int) * 2147483648 + 2147483648 * (M'.length : Int) := by omega
  omega
/-- The edges that a text tells are no more than its bytes. -/
theorem read_few {s : List UInt8} (h : (readR s).1 = 0) : (readR s).2.2.2.length ≤ s.length ∧ (0 ≤ (readR s).2.2.1 ∧ (readR s).2.2.1 ≤ 4096) ∧ ∀ e ∈ (readR s).2.2.2, chkE (readR s).2.2.1 e = 0 := by
  obtain ⟨-, p, D, hs, hp, hd, hm, hr⟩ := read_ok h
  have hl := WordPure.split_len 10 s
  rw [hs] at hl
  rw [hr]
  simp only [List.length_append, List.length_cons, List.length_nil, List.length_map] at hl ⊢
  refine ⟨by omega, (head_rng hp).1, fun e he => ?_⟩
  obtain ⟨d, hd', rfl⟩ := List.mem_map.1 he
  exact edge_chk (hd d hd')
theorem text_small {n : Int} {M : List Ed} (hn : 0 ≤ n ∧ n ≤ 4096) (h : GoodN n M) {k : Nat} (hc : cntL M ≤ k) (hk : k ≤ 100000) : (textP n (splitL M)).length ≤ 49 + 64 * k := by
  have hin : InL M := fun x hx => (h.1.2 x hx).2
  have h1 := text_size (n := n) (L := splitL M) (by unfold In; omega) (by rw [EdPure.split_len]; omega) (split_in hin h.non)
  rw [EdPure.split_len] at h1
  omega
/-- What is printed of a graph is read as it. -/
theorem back_all {n : Nat} (hn : n ≤ 4096) {M : List Ed} (h : GoodN n M) {k : Nat} (hc : cntL M ≤ k) (hk : k ≤ 100000) :
    (readR (textP n (splitL M))).1 = 0 ∧ (readR (textP n (splitL M))).2.2.1 = n ∧ mergeE (readR (textP n (splitL M))).2.2.2 = some M ∧ (textP n (splitL M)).length ≤ 49 + 64 * k := by
  have hs := text_small (n := (n : Int)) (by omega) h hc hk
  obtain ⟨h1, h2⟩ := print_back hn h (by omega) (by omega)
  rw [h1]
  exact ⟨rfl, rfl, h2, hs⟩
/-- The program's texts of a graph, or of none. -/
def prP (p : Option Go.Addr) (N : Nat) (M : List Ed) : List UInt8 := if p = none then [] else textP N (splitL M)
def dtP (p : Option Go.Addr) (N : Nat) (M : List Ed) : List UInt8 := if p = none then [] else dotP N M
def rwP (p : Option Go.Addr) (N : Nat) (M : List Ed) : List UInt8 := if p = none then [] else rowsP N M N
end Go.Proofs.YtmohfmhkhldhnaaGreat.GpPure
/- Bridges in order, plainly, and a graph without an edge, made again of its pieces. No program in sight. -/
namespace Go.Proofs.YtmohfmhkhldhnaaGreat.CmPure
open EdPure NtPure DsuPure GpPure Cm
theorem brL_cut (n : Nat) (M : List Ed) {j : Nat} : ∀ {m : Nat}, j ≤ m → ∃ r, brL n M m = brL n M j ++ r ∧ ∀ x ∈ r, j ≤ x := by
  intro m
  induction m with
  | zero => intro h; have : j = 0 := by omega
            subst this; exact ⟨[], by simp, fun x hx => by simp at hx⟩
  | succ m ih =>
    intro h
    by_cases e : j = m + 1
    · subst e; exact ⟨[], by simp, fun x hx => by simp at hx⟩
    · obtain ⟨r, h1, h2⟩ := ih (by omega)
      refine ⟨r ++ (if brB n M m = true then [m] else []), ?_, fun x hx => ?_⟩
      · rw [← List.append_assoc, ← h1]; rfl
      · rcases List.mem_append.1 hx with hx | hx
        · exact h2 x hx
        · split at hx
          · rw [List.mem_singleton] at hx; omega
          · simp at hx
theorem brL_at {n : Nat} {M : List Ed} {j m : Nat} (hj : j < m) (hb : brB n M j = true) : ∃ h : (brL n M j).length < (zN (brL n M m)).length, (zN (brL n M m))[(brL n M j).length]'h = (j : Int) := by
  obtain ⟨r, h1, -⟩ := brL_cut n M (show j + 1 ≤ m by omega)
  have h2 : brL n M (j + 1) = brL n M j ++ [j] := by show brL n M j ++ (if brB n M j = true then [j] else []) = _; rw [if_pos hb]
  rw [h2] at h1
  refine ⟨by rw [zN_len, h1]; simp, ?_⟩
  simp [zN, h1]
theorem brL_no {n : Nat} {M : List Ed} {j m : Nat} (hj : j < m) (hb : brB n M j = false) (h : (brL n M j).length < (zN (brL n M m)).length) : (zN (brL n M m))[(brL n M j).length]'h ≠ (j : Int) := by
  obtain ⟨r, h1, h3⟩ := brL_cut n M (show j + 1 ≤ m by omega)
  have h2 : brL n M (j + 1) = brL n M j := by show brL n M j ++ (if brB n M j = true then [j] else []) = _; rw [if_neg (by rw [hb]; decide)]; simp
  rw [h2] at h1
  intro e
  have hl : (brL n M j).length < (brL n M m).length := by rwa [zN_len] at h
  have e2 : (brL n M m)[(brL n M j).length] = j := by
    have : (zN (brL n M m))[(brL n M j).length]'h = ((brL n M m)[(brL n M j).length] : Nat) := by simp [zN]
    rw [this] at e
    omega
  have hmem : j ∈ r := by
    have hr : 0 < r.length := by rw [h1, List.length_append] at hl; omega
    have : (brL n M m)[(brL n M j).length] = r[0] := by simp [h1]
    rw [← e2, this]
    exact List.getElem_mem hr
  have := h3 j hmem
  omega
theorem brL_yes {n : Nat} {M : List Ed} {j : Nat} (hb : brB n M j = true) : (brL n M (j + 1)).length = (brL n M j).length + 1 := by
  show (brL n M j ++ (if brB n M j = true then [j] else [])).length = _
  rw [if_pos hb]; simp
theorem brL_same {n : Nat} {M : List Ed} {j : Nat} (hb : brB n M j = false) : (brL n M (j + 1)).length = (brL n M j).length := by
  show (brL n M j ++ (if brB n M j = true then [j] else [])).length = _
  rw [if_neg (by rw [hb]; decide)]; simp
theorem cnt_sub {L M : List Ed} (h : L.Sublist M) : cntL L ≤ cntL M := by
  rw [← split_len, ← split_len]
  unfold splitL
  induction h with
  | slnil => exact Nat.le_refl _
  | cons a _ ih => rw [List.flatMap_cons, List.length_append]; omega
  | cons_cons a _ ih => rw [List.flatMap_cons, List.flatMap_cons, List.length_append, List.length_append]; omega
/-- A graph without an edge is made again of its pieces. -/
theorem wo_again {n : Nat} (hn : n ≤ 4096) {M : List Ed} (h : GoodN n M) (hc : cntL M ≤ 1048576) (i : Nat) :
    GoodN n (woK M i M.length) ∧ (woK M i M.length).length ≤ M.length ∧ InL (woK M i M.length) ∧ splitB (woK M i M.length) = true ∧ InL (splitL (woK M i M.length)) ∧ (splitL (woK M i M.length)).length ≤ 1048576 ∧ errN n (splitL (woK M i M.length)) = (0, 0) ∧ mergeE (splitL (woK M i M.length)) = some (woK M i M.length) := by
  have hg := wo_good h i
  have hs := wo_all M i
  have hin : InL (woK M i M.length) := fun x hx => (hg.1.2 x hx).2
  have hcl : cntL (woK M i M.length) ≤ 1048576 := Nat.le_trans (cnt_sub hs) hc
  have hlen : (splitL (woK M i M.length)).length ≤ 1048576 := by rw [split_len]; exact hcl
  refine ⟨hg, hs.length_le, hin, splitB_yes (fun e he => by have := (hg.2.1 e he).2.2; omega) hcl, split_in hin hg.non, hlen, ?_, split_back hg⟩
  unfold errN
  rw [if_neg (by omega), if_neg (by omega)]
  exact chk_miss n _ 0 fun j hj => split_chk hg _ (List.getElem_mem hj)
end Go.Proofs.YtmohfmhkhldhnaaGreat.CmPure
/- Contract of Split. -/
namespace Go.Proofs.YtmohfmhkhldhnaaGreat
open Go.RowKit Go.ChangeShapes EdPure NumPure
def SplitOut (l : List Ed) (w : World) (e : Ending) (w' : World) : Prop :=
  Below w.heap.size w w' ∧ ∃ q cap, e = .returned (.tuple #[.slice q (splitR l).length cap, .bool (splitB l)]) ∧ ReadsE w'.heap.size w' q (splitR l)
/-- What stands in the third cell. -/
def wAt (B : Nat) (w : World) : Nat := match w.cell? ⟨B, 2, none⟩ with | some (.int _ n) => n.toNat | _ => 0
theorem wAt_of {B : Nat} {w : World} {x : Int} (h : w.cell? ⟨B, 2, none⟩ = some (.int .i64 x)) : wAt B w = x.toNat := by unfold wAt; rw [h]
theorem ret_sl {q : Option Addr} {a b c : Nat} {x y : Bool} (h1 : a = b) (h2 : x = y) : Ending.returned (.tuple #[.slice q a c, .bool x]) = .returned (.tuple #[.slice q b c, .bool y]) := by rw [h1, h2]
def SplRel (w1 : World) (l : List Ed) (k : Nat) (s : Value) (wr : World) : Prop := k ≤ l.length ∧ GrowE w1 (splitL (l.take k)) s wr
def CutRel (w1 : World) (B : Nat) (all : List Ed) (u v : Int) (G : List Ed) (s : Value) (x : Int) (wr : World) : Prop := SplSt w1 B G s u v x wr ∧ G ++ piecesE (u, v, x) = all ∧ 0 ≤ x ∧ x ≤ 9223372036854775807
theorem CutRel.len {w1 wr : World} {B : Nat} {all G : List Ed} {s : Value} {u v x : Int} (h : CutRel w1 B all u v G s x wr) : G.length + 1 ≤ all.length := by
  rw [← h.2.1, List.length_append, pieces_len]; omega
theorem splitR_yes {l : List Ed} (h : splitB l = true) : splitR l = splitL l := if_pos h
theorem splitR_no {l : List Ed} (h : splitB l = false) : splitR l = [] := if_neg (by rw [h]; exact Bool.false_ne_true)
theorem splitB_cnt {l : List Ed} (h : splitB l = true) : cntL l ≤ 1048576 ∧ ∀ e ∈ l, 0 ≤ e.2.2 := by
  unfold splitB at h
  simp only [Bool.and_eq_true, decide_eq_true_eq] at h
  exact ⟨h.2, h.1⟩
end Go.Proofs.YtmohfmhkhldhnaaGreat
