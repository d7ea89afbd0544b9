/- Texts that the laws of this seat stand on, part 9. -/
import Derived.Test.YtdbebebhldldmaaGreatDoorPk6
import Derived.Test.YtdbebebhldldmaaGreatDoorPk8
import Derived.Test.YtdbebebhldldmaaGreatDoorPk1
import Derived.Test.YtdbebebhldldmaaGreatDoorPk3
import Derived.Shelf.Strings.BuilderK
import Derived.Test.YtdbebebhldldmaaGreatDoorPk0
/- Graphs as texts, plainly: a graph's text is read as the graph. No program in sight. -/
namespace Go.Proofs.YtdbebebhldldmaaGreatDoor.GpPure
open EdPure DecPure WordPure GrPure NtPure
open Go.Lib (itoa)
theorem itoa_bytes (n : Int) : itoa n ≠ [] ∧ ∀ c ∈ itoa n, c = 45 ∨ dig c = true := by
  have h := (form_iff _).1 (itoa_form n).1
  have hd := plain_dig h.1
  have hne := plain_ne h.1
  cases hn : negB (itoa n) with
  | true =>
    rw [neg_true hn]
    refine ⟨by simp, fun c hc => ?_⟩
    rw [List.mem_cons] at hc
    rcases hc with hc | hc
    · exact Or.inl hc
    · exact Or.inr (hd c hc)
  | false =>
    rw [neg_false hn] at hd hne
    exact ⟨hne, fun c hc => Or.inr (hd c hc)⟩
theorem itoa_no (n : Int) {c : UInt8} (hc : dig c = false) (h : c ≠ 45) : NoC c (itoa n) := by
  intro x hx e
  rcases (itoa_bytes n).2 x hx with h1 | h1
  · exact h (e.symm.trans h1)
  · rw [e, hc] at h1; cases h1
theorem itoa_word (n : Int) : wordB (itoa n) = true := (word_iff _).2 ⟨(itoa_bytes n).1, itoa_no n (by decide) (by decide), itoa_no n (by decide) (by decide)⟩
theorem itoa_size {n : Int} (h : In n) : (itoa n).length ≤ 20 := by
  refine itoa_len (itoa_form n).1 ?_
  rw [(itoa_form n).2]
  exact (fits_iff n).2 h
theorem nat_in {n most : Int} (h : 0 ≤ n ∧ n ≤ most) (hm : n ≤ 9223372036854775807) : parseE (itoa n) ≠ 2 ∧ natE (itoa n) most = 0 ∧ natN (itoa n) most = n := by
  obtain ⟨e1, e2⟩ := parse_itoa n ⟨by omega, hm⟩
  have := nat_good (most := most) e1 (by rw [e2]; omega)
  rw [e2] at this
  exact ⟨by rw [e1]; decide, this⟩
/-- Numbers with one blank between two. -/
def nums (l : List Int) : List UInt8 := joinC 32 (l.map itoa)
def lineE (e : Ed) : List UInt8 := nums [e.1, e.2.1, e.2.2]
def headT (n m : Int) : List UInt8 := graphW ++ 32 :: nums [n, m]
/-- The lines of edges. -/
def linesP (L : List Ed) : List UInt8 := (L.map fun e => lineE e ++ [10]).flatten
/-- The text of vertices and edges. -/
def textP (n : Int) (L : List Ed) : List UInt8 := headT n L.length ++ 10 :: linesP L
theorem nums_no (l : List Int) {c : UInt8} (hc : dig c = false) (h : c ≠ 45) (h2 : (32 : UInt8) ≠ c) : NoC c (nums l) := by
  refine join_noC h2 fun p hp => ?_
  obtain ⟨n, -, rfl⟩ := List.mem_map.1 hp
  exact itoa_no n hc h
theorem head_words (n m : Int) : wordsL (headT n m) = [graphW, itoa n, itoa m] := by
  have : headT n m = joinC 32 [graphW, itoa n, itoa m] := rfl
  rw [this]
  refine (words_join fun p hp => ?_).2
  simp only [List.mem_cons, List.not_mem_nil, or_false] at hp
  rcases hp with rfl | rfl | rfl
  · decide
  · exact itoa_word n
  · exact itoa_word m
theorem edge_words (e : Ed) : wordsL (lineE e) = [itoa e.1, itoa e.2.1, itoa e.2.2] := by
  refine (words_join fun p hp => ?_).2
  obtain ⟨n, -, rfl⟩ := List.mem_map.1 hp
  exact itoa_word n
theorem head_back {n m : Int} (hn : 0 ≤ n ∧ n ≤ 4096) (hm : 0 ≤ m ∧ m ≤ 1048576) : headE (headT n m) = 0 ∧ headN (headT n m) = n ∧ headM (headT n m) = m := by
  obtain ⟨h1, h2, h3⟩ := head_three (head_words n m)
  obtain ⟨a1, a2, a3⟩ := nat_in hn (by omega)
  obtain ⟨b1, b2, b3⟩ := nat_in hm (by omega)
  have h0 : headE (headT n m) = 0 := by rw [h1, if_pos ⟨rfl, a1, b1⟩, if_pos ⟨a2, b2⟩]
  exact ⟨h0, by rw [h2, if_pos h0, a3], by rw [h3, if_pos h0, b3]⟩
theorem chk_rng {n : Int} {e : Ed} (h : chkE n e = 0) : (0 ≤ e.1 ∧ e.1 < n) ∧ (0 ≤ e.2.1 ∧ e.2.1 < n) ∧ 0 ≤ e.2.2 ∧ e.2.2 ≤ 2147483648 := by
  unfold chkE at h
  split at h
  · next h1 =>
    split at h
    · next h2 => exact ⟨h1.1, h1.2, h2.1, h2.2⟩
    · omega
  · omega
theorem edge_back {n : Int} (hn : n ≤ 4096) {e : Ed} (h : chkE n e = 0) : edgeE (lineE e) n = 0 ∧ edgeX (lineE e) n = e := by
  obtain ⟨r1, r2, r3⟩ := chk_rng h
  obtain ⟨h1, h2⟩ := edge_three (edge_words e) n
  obtain ⟨a1, a2, a3⟩ := nat_in (n := e.1) (most := n - 1) (by omega) (by omega)
  obtain ⟨b1, b2, b3⟩ := nat_in (n := e.2.1) (most := n - 1) (by omega) (by omega)
  obtain ⟨c1, c2, c3⟩ := nat_in r3 (by omega)
  have h0 : edgeE (lineE e) n = 0 := by
    rw [h1, if_pos ⟨a1, b1, c1⟩, if_neg (by omega), if_neg (by rw [a2, b2]; simp), if_neg (by rw [c2]; simp)]
  exact ⟨h0, by rw [h2, if_pos h0, a3, b3, c3]⟩
theorem split_lines (L : List Ed) : splitC 10 (linesP L) = L.map lineE ++ [[]] := by
  induction L with
  | nil => rfl
  | cons e L ih =>
    have : linesP (e :: L) = lineE e ++ 10 :: linesP L := by unfold linesP; simp
    rw [this, split_hit (lineE e) _ (nums_no _ (by decide) (by decide) (by decide)), ih]
    rfl
theorem head_no (n m : Int) : NoC 10 (headT n m) := by
  have : headT n m = joinC 32 [graphW, itoa n, itoa m] := rfl
  rw [this]
  refine join_noC (by decide) fun p hp => ?_
  simp only [List.mem_cons, List.not_mem_nil, or_false] at hp
  rcases hp with rfl | rfl | rfl
  · intro x hx e
    rw [e] at hx
    exact absurd hx (by decide)
  · exact itoa_no n (by decide) (by decide)
  · exact itoa_no m (by decide) (by decide)
/-- What is printed is read. -/
theorem read_back {n : Int} {L : List Ed} (hn : 0 ≤ n ∧ n ≤ 4096) (hL : L.length ≤ 1048576) (hc : ∀ e ∈ L, chkE n e = 0) (hs : (textP n L).length ≤ 16777216) : readR (textP n L) = (0, 0, n, L) := by
  obtain ⟨h1, h2, h3⟩ := head_back (m := (L.length : Int)) hn (by omega)
  have hD : ∀ d ∈ L.map lineE, edgeE d n = 0 := fun d hd => by
    obtain ⟨e, he, rfl⟩ := List.mem_map.1 hd
    exact (edge_back hn.2 (hc e he)).1
  have hX : ((L.map lineE).map fun d => edgeX d n) = L := by
    rw [List.map_map]
    conv => rhs; rw [← List.map_id L]
    exact List.map_congr_left fun e he => (edge_back hn.2 (hc e he)).2
  have hgo : goR n (L.length : Int) [] 1 (L.map lineE ++ [[]]) = (0, 0, L) := by
    rw [go_run (L.map lineE) hD (by simp) (by simp), hX, List.nil_append, go_one, if_neg (by simp)]
  unfold readR
  rw [if_neg (by omega)]
  have hsp : splitC 10 (textP n L) = headT n L.length :: (L.map lineE ++ [[]]) := by
    unfold textP
    rw [split_hit _ _ (head_no n _), split_lines]
  rw [hsp]
  obtain ⟨q, r, hqr⟩ : ∃ q r, L.map lineE ++ [[]] = q :: r := by
    cases h : L.map lineE ++ [[]] with
    | nil => simp at h
    | cons q r => exact ⟨q, r, rfl⟩
  rw [hqr, read_more2, if_neg (by rw [h1]; simp), ← hqr, h2, h3, hgo]
theorem nums_size {l : List Int} (h : ∀ n ∈ l, In n) : (nums l).length ≤ 21 * l.length := by
  unfold nums
  induction l with
  | nil => simp [joinC]
  | cons x r ih =>
    have hx := itoa_size (h x (by simp))
    have hr := ih fun y hy => h y (by simp [hy])
    cases r with
    | nil => simp only [List.map_cons, List.map_nil, joinC, List.length_cons, List.length_nil]; omega
    | cons y t =>
      simp only [List.map_cons] at hr ⊢
      rw [WordPure.join_cons 32 (itoa x) (by simp)]
      simp only [List.length_append, List.length_cons] at hr ⊢
      omega
theorem line_size {e : Ed} (h : InE e) : (lineE e).length ≤ 63 := nums_size (l := [e.1, e.2.1, e.2.2]) fun n hn => by
  simp only [List.mem_cons, List.not_mem_nil, or_false] at hn
  rcases hn with rfl | rfl | rfl
  · exact h.1
  · exact h.2.1
  · exact h.2.2
theorem lines_size {L : List Ed} (h : InL L) : (linesP L).length ≤ 64 * L.length := by
  induction L with
  | nil => simp [linesP]
  | cons e L ih =>
    have h1 := line_size (h e (by simp))
    have h2 := ih fun x hx => h x (by simp [hx])
    have : linesP (e :: L) = lineE e ++ 10 :: linesP L := by unfold linesP; simp
    rw [this]
    simp only [List.length_append, List.length_cons]
    omega
theorem head_size {n m : Int} (hn : In n) (hm : In m) : (headT n m).length ≤ 48 := by
  have := nums_size (l := [n, m]) fun x hx => by
    simp only [List.mem_cons, List.not_mem_nil, or_false] at hx
    rcases hx with rfl | rfl
    · exact hn
    · exact hm
  unfold headT
  simp only [List.length_append, List.length_cons] at this ⊢
  have : graphW.length = 5 := rfl
  simp only [List.length_nil] at *
  omega
theorem text_size {n : Int} {L : List Ed} (hn : In n) (hl : L.length ≤ 1048576) (h : InL L) : (textP n L).length ≤ 49 + 64 * L.length := by
  have h1 := head_size (m := (L.length : Int)) hn (by unfold In; omega)
  have h2 := lines_size h
  unfold textP
  simp only [List.length_append, List.length_cons]
  omega
theorem chk_in {n : Int} (hn : n ≤ 4096) {e : Ed} (h : chkE n e = 0) : InE e := by
  obtain ⟨r1, r2, r3⟩ := chk_rng h
  unfold InE In
  omega
/-- Pieces may be edges. -/
theorem split_chk {n : Int} {M : List Ed} (h : GoodN n M) : ∀ e ∈ splitL M, chkE n e = 0 := by
  intro x hx
  unfold splitL at hx
  obtain ⟨e, he, hx⟩ := List.mem_flatMap.1 hx
  obtain ⟨h0, h1, h2⟩ := h.2.1 e he
  have hlt := (h.1.2 e he).1
  have key : x.1 = e.1 ∧ x.2.1 = e.2.1 ∧ 0 ≤ x.2.2 ∧ x.2.2 ≤ 2147483648 := by
    unfold piecesE at hx
    rcases List.mem_append.1 hx with hx | hx
    · rw [List.eq_of_mem_replicate hx]
      exact ⟨rfl, rfl, by simp, by simp⟩
    · rw [List.mem_singleton] at hx
      rw [hx]
      refine ⟨rfl, rfl, ?_, ?_⟩ <;> (unfold quoE; simp only; omega)
  unfold chkE
  rw [if_pos (by omega), if_pos (by omega)]
/-- What is split is merged again. -/
theorem split_back {n : Int} {M : List Ed} (h : GoodN n M) : mergeE (splitL M) = some M := by
  have hin : InL M := fun x hx => (h.1.2 x hx).2
  obtain ⟨M', g1, g2, g3, g4⟩ := gath_all (split_in hin h.non) (split_non h.non) (by rw [split_all]; have := h.2.2; omega)
  have : M' = M := good_ext g2.1 h.1.1 (fun u v => by rw [g3, split_has, good_has h.1]) (fun u v => by rw [g4, split_sum, good_sum h.1])
  unfold mergeE
  rw [g1, this]
  show some (nonz M) = _
  rw [nonz_id fun x hx => by have := (h.2.1 x hx).2.2; omega]
/-- There and back: a graph's text is read as the graph. -/
theorem print_back {n : Nat} (hn : n ≤ 4096) {M : List Ed} (h : GoodN n M) (hc : cntL M ≤ 1048576) (hs : (textP n (splitL M)).length ≤ 16777216) :
    readR (textP n (splitL M)) = (0, 0, (n : Int), splitL M) ∧ mergeE (splitL M) = some M :=
  ⟨read_back (by omega) (by rw [EdPure.split_len]; exact hc) (split_chk h) hs, split_back h⟩
/-! ### The other texts -/
/-- The lines of vertices that are in no edge, of the first k. -/
def isoP (M : List Ed) (k : Nat) : List UInt8 := ((List.range k).map fun v : Nat => if nearE M (v : Int) = [] then itoa (v : Int) ++ [59, 10] else []).flatten
def dotE (e : Ed) : List UInt8 := itoa e.1 ++ [32, 45, 45, 32] ++ itoa e.2.1 ++ [32, 91] ++ itoa e.2.2 ++ [93, 59, 10]
def dotsP (L : List Ed) : List UInt8 := (L.map dotE).flatten
def dotP (n : Nat) (M : List Ed) : List UInt8 := [103, 114, 97, 112, 104, 32, 123, 10] ++ isoP M n ++ dotsP M ++ [125, 10]
/-- What is between a vertex and the first k ones. -/
def rowL (M : List Ed) (u : Int) (k : Nat) : List Int := (List.range k).map fun v : Nat => weiE M u (v : Int)
def rowsP (n : Nat) (M : List Ed) (k : Nat) : List UInt8 := ((List.range k).map fun u : Nat => nums (rowL M (u : Int) n) ++ [10]).flatten
theorem iso_succ (M : List Ed) (k : Nat) : isoP M (k + 1) = isoP M k ++ if nearE M (k : Int) = [] then itoa (k : Int) ++ [59, 10] else [] := by
  unfold isoP; rw [List.range_succ, List.map_append, List.flatten_append]; simp
theorem row_succ (M : List Ed) (u : Int) (k : Nat) : rowL M u (k + 1) = rowL M u k ++ [weiE M u (k : Int)] := by
  unfold rowL; rw [List.range_succ, List.map_append]; rfl
theorem row_len (M : List Ed) (u : Int) (k : Nat) : (rowL M u k).length = k := by unfold rowL; simp
theorem rows_succ (n : Nat) (M : List Ed) (k : Nat) : rowsP n M (k + 1) = rowsP n M k ++ (nums (rowL M (k : Int) n) ++ [10]) := by
  unfold rowsP; rw [List.range_succ, List.map_append, List.flatten_append]; simp
theorem lines_snoc (L : List Ed) (e : Ed) : linesP (L ++ [e]) = linesP L ++ (lineE e ++ [10]) := by unfold linesP; simp
theorem dots_snoc (L : List Ed) (e : Ed) : dotsP (L ++ [e]) = dotsP L ++ dotE e := by unfold dotsP; simp
theorem lines_take {L : List Ed} {k : Nat} (hk : k < L.length) : linesP (L.take (k + 1)) = linesP (L.take k) ++ (lineE L[k] ++ [10]) := by
  rw [List.take_succ_eq_append_getElem hk, lines_snoc]
theorem dots_take {L : List Ed} {k : Nat} (hk : k < L.length) : dotsP (L.take (k + 1)) = dotsP (L.take k) ++ dotE L[k] := by
  rw [List.take_succ_eq_append_getElem hk, dots_snoc]
theorem iso_size (M : List Ed) {k : Nat} (hk : k ≤ 1000000) : (isoP M k).length ≤ 22 * k := by
  induction k with
  | zero => simp [isoP]
  | succ k ih =>
    rw [iso_succ, List.length_append]
    have h1 := ih (by omega)
    split
    · have := itoa_size (n := (k : Int)) (by unfold In; omega)
      simp only [List.length_append, List.length_cons, List.length_nil]
      omega
    · simp only [List.length_nil]; omega
theorem dots_size {L : List Ed} (h : InL L) : (dotsP L).length ≤ 80 * L.length := by
  induction L with
  | nil => simp [dotsP]
  | cons e L ih =>
    have h2 := ih fun x hx => h x (by simp [hx])
    have he := h e (by simp)
    have a := itoa_size he.1
    have b := itoa_size he.2.1
    have c := itoa_size he.2.2
    have : dotsP (e :: L) = dotE e ++ dotsP L := by unfold dotsP; simp
    rw [this]
    simp only [dotE, List.length_append, List.length_cons, List.length_nil]
    omega
theorem rows_size {n : Nat} {M : List Ed} (h : ∀ u v, In (weiE M u v)) (k : Nat) : (rowsP n M k).length ≤ (21 * n + 1) * k := by
  induction k with
  | zero => simp [rowsP]
  | succ k ih =>
    rw [rows_succ]
    have := nums_size (l := rowL M (k : Int) n) fun x hx => by
      obtain ⟨v, -, rfl⟩ := List.mem_map.1 hx
      exact h _ _
    rw [row_len] at this
    simp only [List.length_append, List.length_cons, List.length_nil]
    rw [Nat.mul_succ]
    omega
end Go.Proofs.YtdbebebhldldmaaGreatDoor.GpPure
/- Contracts: a text that is put together line by line; a number's digits. -/
namespace Go.Proofs.YtdbebebhldldmaaGreatDoor.Gp
open Go.RowKit Go.ChangeShapes WordPure Str Wd EdPure GpPure
theorem hmf : ∀ (fn : Fn) (first cap : Array Value) (w : World), (Instr.makeFunc fn first cap).run Tryz.prog w = .ok (.func fn first cap) w := fun _ _ _ _ => rfl
/-- What was put lies in block b. -/
def BufAt (B b : Nat) (T : List UInt8) (w : World) : Prop := Lib.IsBuilderF 112 5 B b (Lib.byteCells T) w
theorem BufAt.on {B b : Nat} {T : List UInt8} {w w' : World} (h : BufAt B b T w) (hb : Below w.heap.size w w') : BufAt B b T w' := by
  have key : ∀ {p : Value}, Lib.BuilderAtF 112 5 B b p (Lib.byteCells T) w → Lib.BuilderAtF 112 5 B b p (Lib.byteCells T) w' := by
    intro p h
    have hlt := h.lt
    obtain ⟨hB, v, hv, hown, hne⟩ := h
    exact ⟨hB, v, (hb.block b hlt).trans hv, hown.kept (row := none) ⟨hb.os, hb.tape, hb.output, hb.size, fun k hk _ => hb.block k hk⟩ (Classical.em _), hne⟩
  exact h.elim (fun x => .inl (key x)) (fun x => .inr (key x))
theorem BufAt.lt {B b : Nat} {T : List UInt8} {w : World} (h : BufAt B b T w) : b < w.heap.size := h.elim (fun x => x.lt) (fun x => x.lt)
/-- Every block but b, and rows of bytes, stands. -/
abbrev Kept (b : Nat) (w w' : World) : Prop := Lib.OthersKept 5 (some b) w w'
theorem kept_below {b : Nat} {a w w' : World} (h : Kept b a w) (hb : Below w.heap.size w w') : Kept b a w' := by
  intro k x hk hbk hx
  have h1 := h k x hk hbk hx
  have hlt : k < w.heap.size := (Array.getElem?_eq_some_iff.1 h1).1
  rw [hb.block k hlt]
  exact h1
theorem write_any (B b : Nat) (T : List UInt8) (X : ByteArray) (p : List UInt8) (hX : X = ⟨p.toArray⟩) (w : World) (h : BufAt B b T w) (hl : T.length + p.length ≤ 140737488355328) (hB : B ≤ w.heap.size) :
    Calls Tryz.prog 58 #[.pointer (some ⟨b, 0, none⟩), .string X] w fun e w' => e = .returned (.tuple #[.int .i64 X.size, .nilIface]) ∧ BufAt B b (T ++ p) w' ∧ Below B w w' ∧ Kept b w w' := by
  subst hX
  refine (Any.Builder_WriteString_k Tryz.lays166 Tryz.Builder_Extra_166 B b (Lib.byteCells T) ⟨p.toArray⟩ w h (by rw [Lib.byteCells_length]; show _ + p.toArray.size ≤ _; rw [List.size_toArray]; exact hl) hB).mono ?_
  rintro e w' ⟨he, hu, hb, hk⟩
  refine ⟨he, ?_, hb, hk⟩
  unfold BufAt
  rw [Lib.byteCells_append]
  exact Or.inr hu
theorem number_any (n : Int) (h : In n) (w : World) (hT : Ten w) :
    Calls Tryz.prog 29 #[.int .i64 n] w fun e w' => e = .returned (.string ⟨(Lib.itoa n).toArray⟩) ∧ Below w.heap.size w w' := by
  have HP := Lib.hid (print_any n h.1 h.2 w hT)
  have h0 := h.1
  have h1 := h.2
  clear h hT
  go_enter Tryz.func29, Tryz.ntmps29
  go_wp2_with fail
  refine HP.out.mono ?_
  rintro e w1 ⟨rfl, hb1⟩
  have HB := Lib.hid hb1
  clear hb1
  go_wp2
  go_ret
  exact ⟨rfl, HB.out⟩
theorem newText_any (w : World) :
    Calls Tryz.prog 27 #[] w fun e w' => e = .returned (.tuple #[.func (.func 57) #[] #[.pointer (some ⟨w.heap.size, 0, none⟩)], .func (.func 60) #[.pointer (some ⟨w.heap.size, 0, none⟩)] #[]]) ∧ BufAt w.heap.size w.heap.size [] w' ∧ Below w.heap.size w w' := by
  have hB0 := (Below.refl w.heap.size w).alloc (Nat.le_refl _) (.cells #[.pointer none, .slice none 0 0] 112)
  have HS : Hid (BufAt w.heap.size w.heap.size [] (w.alloc (.cells #[.pointer none, .slice none 0 0] 112)) ∧ Below w.heap.size w (w.alloc (.cells #[.pointer none, .slice none 0 0] 112))) := Lib.hid ⟨Lib.IsBuilderF.of (Lib.fresh_isBuilder _ _ w), hB0⟩
  clear hB0
  have hm := hmf
  go_enter Tryz.func27, Tryz.ntmps27
  go_wp2
  go_ret2
  exact ⟨rfl, HS.out⟩
/-- What was put is told. -/
theorem told_any (B b : Nat) (T : List UInt8) (w : World) (h : BufAt B b T w) (hB : B ≤ w.heap.size) :
    Calls Tryz.prog 60 #[.pointer (some ⟨b, 0, none⟩)] w fun e w' => e = .returned (.string ⟨T.toArray⟩) ∧ Below B w w' :=
  (Any.Builder_String_any_f Tryz.lays169 Tryz.Builder_Extra_169 B b T w h hB).mono fun _ _ ⟨he, _, hb⟩ => ⟨he, hb⟩
/-- A line of words is put behind the others. -/
theorem line_any (B b : Nat) (T : List UInt8) (a : Option Addr) (cap : Nat) (l : List (List UInt8)) (w : World) (h : BufAt B b T w) (hB : B ≤ w.heap.size) (hl : ReadsL encS w.heap.size w a l) (hc : l.length ≤ cap) (hs : Short 10000000 l) (hT : T.length ≤ 100000000000) :
    Calls Tryz.prog 57 #[.slice a l.length cap, .pointer (some ⟨b, 0, none⟩)] w fun e w' => e = .returned (.tuple #[]) ∧ BufAt B b (T ++ (joinC 32 l ++ [10])) w' ∧ Below B w w' ∧ Kept b w w' := by
  have HJ := Lib.hid (join_any a cap l w hl hc (by unfold Short at hs ⊢; omega))
  have HU := Lib.hid h
  have HL := Lib.hid hs.join
  obtain ⟨X, hX⟩ : ∃ X : ByteArray, X = ⟨(joinC 32 l).toArray⟩ := ⟨_, rfl⟩
  rw [← hX] at HJ
  have HX := Lib.hid hX
  have HTT := Lib.hid hT
  clear hX hl hs h hT
  go_enter Tryz.func57, Tryz.ntmps57
  go_wp2_with fail
  refine HJ.out.mono ?_
  rintro e w1 ⟨rfl, hb1⟩
  have HB1 := Lib.hid (And.intro (hb1.mono hB) (kept_below (Lib.OthersKept.refl _ (some b) _) hb1))
  have HU1 := Lib.hid (HU.out.on hb1)
  have hsz1 := hb1.size
  have hB1 : B ≤ w1.heap.size := Nat.le_trans hB hsz1
  clear hb1 HJ
  go_wp2_with fail
  refine (write_any B b T X _ HX.out w1 HU1.out (by have h1 := HL.out; have h2 := HTT.out; omega) hB1).mono ?_
  rintro e w2 ⟨rfl, hu2, hb2, hk2⟩
  have HB2 := Lib.hid (And.intro (HB1.out.1.trans hb2) (HB1.out.2.trans hk2))
  have HU2 := Lib.hid hu2
  have hB2 : B ≤ w2.heap.size := Nat.le_trans hB1 hb2.size
  clear hu2 hb2 hk2
  go_wp2_with fail
  refine (write_any B b _ ⟨#[10]⟩ [10] rfl w2 HU2.out (by have h1 := HL.out; have h2 := HTT.out; rw [List.length_append]; simp only [List.length_cons, List.length_nil]; omega) hB2).mono ?_
  rintro e w3 ⟨rfl, hu3, hb3, hk3⟩
  have HB3 := Lib.hid (And.intro (HB2.out.1.trans hb3) (HB2.out.2.trans hk3))
  have HU3 : Hid (BufAt B b (T ++ (joinC 32 l ++ [10])) w3) := Lib.hid (by
    rw [← List.append_assoc]
    exact hu3)
  clear hu3 hb3 hk3
  go_wp2
  go_end0
  exact ⟨rfl, HU3.out, HB3.out⟩
end Go.Proofs.YtdbebebhldldmaaGreatDoor.Gp
/- A block of two or three cells that a call made (a struct's result): what lies in it, over calls and stores. No function of the program is named. -/
namespace Go.Proofs.YtdbebebhldldmaaGreatDoor
open Go.RowKit Go.ChangeShapes
def TwoAt (N : Nat) (w : World) (u v : Value) : Prop :=
  w.cell? ⟨N, 0, none⟩ = some u ∧ w.cell? ⟨N, 1, none⟩ = some v ∧ w.frozen? ⟨N, 0, none⟩ = false ∧ w.frozen? ⟨N, 1, none⟩ = false
theorem TwoAt.lt {N : Nat} {w : World} {u v : Value} (h : TwoAt N w u v) : N < w.heap.size := World.block_lt_of_cell? w _ h.1
theorem TwoAt.on {N M : Nat} {w w' : World} {u v : Value} (h : TwoAt N w u v) (hb : Below M w w') (hM : N < M) : TwoAt N w' u v := by
  obtain ⟨h0, h1, f0, f1⟩ := h
  exact ⟨(hb.cell (by exact hM)).trans h0, (hb.cell (by exact hM)).trans h1, (hb.frozen (by exact hM)).trans f0, (hb.frozen (by exact hM)).trans f1⟩
theorem TwoAt.new (w : World) (u v : Value) (T : TypeId) : TwoAt w.heap.size (w.alloc (.cells #[u, v] T)) u v :=
  ⟨by simp, by simp, by simp, by simp⟩
theorem TwoAt.set {N : Nat} {w : World} {u v : Value} (h : TwoAt N w u v) (a b : Value) : TwoAt N ((w.setCell ⟨N, 0, none⟩ a).setCell ⟨N, 1, none⟩ b) a b := by
  obtain ⟨h0, h1, f0, f1⟩ := h
  have h1' : (w.setCell ⟨N, 0, none⟩ a).cell? ⟨N, 1, none⟩ = some v := (World.cell?_setCell_other w ⟨N, 0, none⟩ ⟨N, 1, none⟩ _ (by simp)).trans h1
  refine ⟨(World.cell?_setCell_other _ ⟨N, 1, none⟩ ⟨N, 0, none⟩ _ (by simp)).trans (World.cell?_setCell_same _ _ _ h0), World.cell?_setCell_same _ _ _ h1', ?_, ?_⟩
  · simpa using f0
  · simpa using f1
def ThreeAt (N : Nat) (w : World) (u v x : Value) : Prop :=
  w.cell? ⟨N, 0, none⟩ = some u ∧ w.cell? ⟨N, 1, none⟩ = some v ∧ w.cell? ⟨N, 2, none⟩ = some x ∧ w.frozen? ⟨N, 0, none⟩ = false ∧ w.frozen? ⟨N, 1, none⟩ = false ∧ w.frozen? ⟨N, 2, none⟩ = false
theorem ThreeAt.lt {N : Nat} {w : World} {u v x : Value} (h : ThreeAt N w u v x) : N < w.heap.size := World.block_lt_of_cell? w _ h.1
theorem ThreeAt.on {N M : Nat} {w w' : World} {u v x : Value} (h : ThreeAt N w u v x) (hb : Below M w w') (hM : N < M) : ThreeAt N w' u v x := by
  obtain ⟨h0, h1, h2, f0, f1, f2⟩ := h
  exact ⟨(hb.cell (by exact hM)).trans h0, (hb.cell (by exact hM)).trans h1, (hb.cell (by exact hM)).trans h2, (hb.frozen (by exact hM)).trans f0, (hb.frozen (by exact hM)).trans f1, (hb.frozen (by exact hM)).trans f2⟩
theorem ThreeAt.new (w : World) (u v x : Value) (T : TypeId) : ThreeAt w.heap.size (w.alloc (.cells #[u, v, x] T)) u v x :=
  ⟨by simp, by simp, by simp, by simp, by simp, by simp⟩
theorem ThreeAt.set {N : Nat} {w : World} {u v x : Value} (h : ThreeAt N w u v x) (a b c : Value) : ThreeAt N (((w.setCell ⟨N, 0, none⟩ a).setCell ⟨N, 1, none⟩ b).setCell ⟨N, 2, none⟩ c) a b c := by
  obtain ⟨h0, h1, h2, f0, f1, f2⟩ := h
  have h1' : (w.setCell ⟨N, 0, none⟩ a).cell? ⟨N, 1, none⟩ = some v := (World.cell?_setCell_other w ⟨N, 0, none⟩ ⟨N, 1, none⟩ _ (by simp)).trans h1
  have h2' : ((w.setCell ⟨N, 0, none⟩ a).setCell ⟨N, 1, none⟩ b).cell? ⟨N, 2, none⟩ = some x := (World.cell?_setCell_other _ ⟨N, 1, none⟩ ⟨N, 2, none⟩ _ (by simp)).trans ((World.cell?_setCell_other w ⟨N, 0, none⟩ ⟨N, 2, none⟩ _ (by simp)).trans h2)
  have h0' : ((w.setCell ⟨N, 0, none⟩ a).setCell ⟨N, 1, none⟩ b).cell? ⟨N, 0, none⟩ = some a := (World.cell?_setCell_other _ ⟨N, 1, none⟩ ⟨N, 0, none⟩ _ (by simp)).trans (World.cell?_setCell_same _ _ _ h0)
  refine ⟨(World.cell?_setCell_other _ ⟨N, 2, none⟩ ⟨N, 0, none⟩ _ (by simp)).trans h0', (World.cell?_setCell_other _ ⟨N, 2, none⟩ ⟨N, 1, none⟩ _ (by simp)).trans (World.cell?_setCell_same _ _ _ h1'), World.cell?_setCell_same _ _ _ h2', ?_, ?_, ?_⟩
  · simpa using f0
  · simpa using f1
  · simpa using f2
end Go.Proofs.YtdbebebhldldmaaGreatDoor
