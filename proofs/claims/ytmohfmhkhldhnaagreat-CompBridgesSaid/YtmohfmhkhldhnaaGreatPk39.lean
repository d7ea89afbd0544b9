/- Texts as graphs, plainly: what a line tells, what a text of lines denotes; a text with bytes behind it is none, and one that is cut off is none. No program in sight. -/
import Derived.Test.YtmohfmhkhldhnaaGreatPk37
import Derived.Test.YtmohfmhkhldhnaaGreatPk38
import Derived.Test.YtmohfmhkhldhnaaGreatPk8
namespace Go.Proofs.YtmohfmhkhldhnaaGreat.GrPure
open EdPure DecPure WordPure
/-- The word graph. -/
def graphW : List UInt8 := [103, 114, 97, 112, 104]
/-- Why a line is no first one. -/
def headE (l : List UInt8) : Int := match wordsL l with
  | [a, b, c] => if a = graphW ∧ parseE b ≠ 2 ∧ parseE c ≠ 2 then (if natE b 4096 = 0 ∧ natE c 1048576 = 0 then 0 else 3) else 2
  | _ => 2
def headN (l : List UInt8) : Int := match wordsL l with
  | [_, b, _] => if headE l = 0 then natN b 4096 else 0
  | _ => 0
def headM (l : List UInt8) : Int := match wordsL l with
  | [_, _, c] => if headE l = 0 then natN c 1048576 else 0
  | _ => 0
/-- Why a line is no edge's. -/
def edgeE (l : List UInt8) (n : Int) : Int := match wordsL l with
  | [a, b, c] => if parseE a ≠ 2 ∧ parseE b ≠ 2 ∧ parseE c ≠ 2 then (if n < 1 then 4 else if natE a (n - 1) ≠ 0 ∨ natE b (n - 1) ≠ 0 then 4 else if natE c 2147483648 ≠ 0 then 5 else 0) else 2
  | _ => 2
def edgeX (l : List UInt8) (n : Int) : Ed := match wordsL l with
  | [a, b, c] => if edgeE l n = 0 then (natN a (n - 1), natN b (n - 1), natN c 2147483648) else (0, 0, 0)
  | _ => (0, 0, 0)
/-- What lines tell, from behind k of them on: why they can't be and where, or the edges. The last piece has no byte 10 behind it. -/
def goR (n m : Int) : List Ed → Nat → List (List UInt8) → Int × Int × List Ed
  | _, k, [] => (2, (k : Int) + 1, [])
  | L, k, [p] => if p ≠ [] ∨ (L.length : Int) ≠ m then (2, (k : Int) + 1, []) else (0, 0, L)
  | L, k, p :: q :: r => if (L.length : Int) = m then (2, (k : Int) + 1, []) else if edgeE p n ≠ 0 then (edgeE p n, (k : Int) + 1, []) else goR n m (L ++ [edgeX p n]) (k + 1) (q :: r)
def readP : List (List UInt8) → Int × Int × Int × List Ed
  | p :: q :: r => if headE p ≠ 0 then (headE p, 1, 0, []) else ((goR (headN p) (headM p) [] 1 (q :: r)).1, (goR (headN p) (headM p) [] 1 (q :: r)).2.1, headN p, (goR (headN p) (headM p) [] 1 (q :: r)).2.2)
  | _ => (2, 1, 0, [])
/-- What a text denotes: an error and its line, or a number of vertices and edges. -/
def readR (s : List UInt8) : Int × Int × Int × List Ed := if 16777216 < s.length then (3, 0, 0, []) else readP (splitC 10 s)
theorem go_one (n m : Int) (L : List Ed) (k : Nat) (p : List UInt8) : goR n m L k [p] = if p ≠ [] ∨ (L.length : Int) ≠ m then (2, (k : Int) + 1, []) else (0, 0, L) := by rw [goR]
theorem go_more (n m : Int) (L : List Ed) (k : Nat) (p q : List UInt8) (r : List (List UInt8)) : goR n m L k (p :: q :: r) = if (L.length : Int) = m then (2, (k : Int) + 1, []) else if edgeE p n ≠ 0 then (edgeE p n, (k : Int) + 1, []) else goR n m (L ++ [edgeX p n]) (k + 1) (q :: r) := by rw [goR]
theorem read_more2 (p q : List UInt8) (r : List (List UInt8)) : readP (p :: q :: r) = if headE p ≠ 0 then (headE p, 1, 0, []) else ((goR (headN p) (headM p) [] 1 (q :: r)).1, (goR (headN p) (headM p) [] 1 (q :: r)).2.1, headN p, (goR (headN p) (headM p) [] 1 (q :: r)).2.2) := rfl
theorem read_one (p : List UInt8) : readP [p] = (2, 1, 0, []) := rfl
theorem words_no {l : List UInt8} (h : wordsB l = false) : wordsL l = [] := by
  unfold wordsB at h
  unfold wordsL
  rw [Bool.or_eq_false_iff] at h
  rw [if_neg (by rw [h.1]; decide), if_neg (by rw [h.2]; decide)]
theorem head_bad {l : List UInt8} (h : (wordsL l).length ≠ 3) : headE l = 2 ∧ headN l = 0 ∧ headM l = 0 := by
  unfold headE headN headM
  split
  · next a b c he => rw [he] at h; exact absurd rfl h
  · exact ⟨rfl, rfl, rfl⟩
theorem head_three {l a b c : List UInt8} (h : wordsL l = [a, b, c]) : headE l = (if a = graphW ∧ parseE b ≠ 2 ∧ parseE c ≠ 2 then (if natE b 4096 = 0 ∧ natE c 1048576 = 0 then 0 else 3) else 2) ∧
    headN l = (if headE l = 0 then natN b 4096 else 0) ∧ headM l = (if headE l = 0 then natN c 1048576 else 0) := by
  refine ⟨by unfold headE; rw [h], by unfold headN; rw [h], by unfold headM; rw [h]⟩
theorem edge_bad {l : List UInt8} (h : (wordsL l).length ≠ 3) (n : Int) : edgeE l n = 2 ∧ edgeX l n = (0, 0, 0) := by
  unfold edgeE edgeX
  split
  · next a b c he => rw [he] at h; exact absurd rfl h
  · exact ⟨rfl, rfl⟩
theorem edge_three {l a b c : List UInt8} (h : wordsL l = [a, b, c]) (n : Int) : edgeE l n = (if parseE a ≠ 2 ∧ parseE b ≠ 2 ∧ parseE c ≠ 2 then (if n < 1 then 4 else if natE a (n - 1) ≠ 0 ∨ natE b (n - 1) ≠ 0 then 4 else if natE c 2147483648 ≠ 0 then 5 else 0) else 2) ∧
    edgeX l n = (if edgeE l n = 0 then (natN a (n - 1), natN b (n - 1), natN c 2147483648) else (0, 0, 0)) := by
  refine ⟨by unfold edgeE; rw [h], by unfold edgeX; rw [h]⟩
/-- No word is longer than its text. -/
theorem words_mem {l p : List UInt8} (h : p ∈ wordsL l) : p.length ≤ l.length := by
  unfold wordsL at h
  split at h
  · simp at h
  · split at h
    · exact (split_mem 32 l p h).1
    · simp at h
theorem words_len (l : List UInt8) : (wordsL l).length ≤ l.length + 1 := by
  unfold wordsL
  split
  · simp
  · split
    · exact split_len 32 l
    · simp
/-! ### Edges that are told may be -/
theorem nat_rng {l : List UInt8} {most : Int} (h : natE l most = 0) : 0 ≤ natN l most ∧ natN l most ≤ most := by
  by_cases h1 : parseE l ≠ 0
  · rw [(nat_bad h1 most).1] at h; exact absurd h h1
  · have h1' : parseE l = 0 := by simpa using h1
    by_cases h2 : parseN l < 0 ∨ most < parseN l
    · rw [(nat_far h1' h2).1] at h; cases h
    · rw [(nat_good h1' h2).2]; omega
theorem edge_chk {l : List UInt8} {n : Int} (h : edgeE l n = 0) : chkE n (edgeX l n) = 0 := by
  unfold edgeX
  unfold edgeE at h ⊢
  revert h
  split
  · next a b c he =>
    intro h
    rw [if_pos h]
    split at h
    · split at h
      · cases h
      · split at h
        · cases h
        · split at h
          · cases h
          · next h1 h2 h3 h4 =>
            have ha := nat_rng (l := a) (most := n - 1) (Decidable.byContradiction fun e => h3 (Or.inl e))
            have hb := nat_rng (l := b) (most := n - 1) (Decidable.byContradiction fun e => h3 (Or.inr e))
            have hc := nat_rng (l := c) (most := 2147483648) (Decidable.byContradiction fun e => h4 e)
            unfold chkE
            rw [if_pos (by simp only; omega), if_pos (by simp only; omega)]
    · cases h
  · intro h; cases h
theorem head_rng {l : List UInt8} (h : headE l = 0) : (0 ≤ headN l ∧ headN l ≤ 4096) ∧ 0 ≤ headM l ∧ headM l ≤ 1048576 := by
  have h0 := h
  unfold headE at h
  unfold headN headM
  revert h
  split
  · next a b c he =>
    intro h
    rw [if_pos h0, if_pos h0]
    split at h
    · split at h
      · next h1 h2 => exact ⟨nat_rng h2.1, nat_rng h2.2⟩
      · cases h
    · cases h
  · intro h; cases h
/-! ### Lines that go well -/
/-- All good lines of an edge each are gone over. -/
theorem go_run {n m : Int} (D : List (List UInt8)) : ∀ {L : List Ed} {k : Nat} {R : List (List UInt8)}, (∀ d ∈ D, edgeE d n = 0) → (L.length : Int) + D.length ≤ m → R ≠ [] →
    goR n m L k (D ++ R) = goR n m (L ++ D.map fun d => edgeX d n) (k + D.length) R := by
  induction D with
  | nil => intro L k R _ _ _; simp
  | cons d D ih =>
    intro L k R hd hm hR
    obtain ⟨q, r, hqr⟩ : ∃ q r, D ++ R = q :: r := by
      cases h : D ++ R with
      | nil => rw [List.append_eq_nil_iff] at h; exact absurd h.2 hR
      | cons q r => exact ⟨q, r, rfl⟩
    rw [List.length_cons] at hm
    rw [List.cons_append, hqr]
    rw [go_more, if_neg (by omega), if_neg (by simpa using hd d (by simp)), ← hqr, ih (fun x hx => hd x (by simp [hx])) (by simp; omega) hR]
    simp [Nat.add_comm, Nat.add_left_comm]
/-- What went well had one line for each edge, and nothing behind. -/
theorem go_ok {n m : Int} : ∀ {P : List (List UInt8)} {L : List Ed} {k : Nat}, (goR n m L k P).1 = 0 → ∃ D, P = D ++ [[]] ∧ (∀ d ∈ D, edgeE d n = 0) ∧ (L.length : Int) + D.length = m ∧ goR n m L k P = (0, 0, L ++ D.map fun d => edgeX d n) := by
  intro P
  induction P with
  | nil => intro L k h; unfold goR at h; cases h
  | cons p r ih =>
    intro L k h
    cases r with
    | nil =>
      rw [go_one] at h ⊢
      split at h
      · cases h
      · next h1 =>
        have hp : p = [] := Decidable.byContradiction fun e => h1 (Or.inl e)
        have hm : (L.length : Int) = m := Decidable.byContradiction fun e => h1 (Or.inr e)
        rw [if_neg h1]
        exact ⟨[], by rw [hp]; rfl, fun d hd => by simp at hd, by simpa using hm, by simp⟩
    | cons q t =>
      rw [go_more] at h ⊢
      split at h
      · cases h
      · next h1 =>
        split at h
        · next h2 => exact absurd h h2
        · next h2 =>
          obtain ⟨D, e1, e2, e3, e4⟩ := ih h
          have h2' : edgeE p n = 0 := by simpa using h2
          rw [if_neg h1, if_neg h2]
          refine ⟨p :: D, by rw [e1]; rfl, fun d hd => ?_, by rw [List.length_append] at e3; simp at e3 ⊢; omega, by rw [e4]; simp⟩
          rcases List.mem_cons.1 hd with rfl | hd
          · exact h2'
          · exact e2 d hd
/-- A text that denotes a graph: its first line, one for each edge, and nothing behind. -/
theorem read_ok {s : List UInt8} (h : (readR s).1 = 0) : s.length ≤ 16777216 ∧ ∃ p D, splitC 10 s = p :: D ++ [[]] ∧ headE p = 0 ∧ (∀ d ∈ D, edgeE d (headN p) = 0) ∧ (D.length : Int) = headM p ∧
    readR s = (0, 0, headN p, D.map fun d => edgeX d (headN p)) := by
  unfold readR at h ⊢
  split at h
  · cases h
  · next hl =>
    refine ⟨by omega, ?_⟩
    rw [if_neg hl]
    revert h
    generalize splitC 10 s = P
    intro h
    match P, h with
    | p :: q :: r, h =>
      rw [read_more2] at h ⊢
      split at h
      · next h1 => exact absurd h h1
      · next h1 =>
        obtain ⟨D, e1, e2, e3, e4⟩ := go_ok h
        rw [if_neg h1]
        exact ⟨p, D, by rw [e1]; rfl, by simpa using h1, e2, by simpa using e3, by rw [e4]; simp⟩
    | [], h => unfold readP at h; cases h
    | [_], h => unfold readP at h; cases h
/-! ### Bytes behind, and a text that is cut off -/
theorem split_app (c : UInt8) (a b : List UInt8) : ∃ A x y B, splitC c a = A ++ [x] ∧ splitC c b = y :: B ∧ splitC c (a ++ b) = A ++ (x ++ y) :: B := by
  induction a with
  | nil =>
    obtain ⟨y, B, hb⟩ : ∃ y B, splitC c b = y :: B := by
      cases h : splitC c b with
      | nil => exact absurd h (split_ne c b)
      | cons y B => exact ⟨y, B, rfl⟩
    exact ⟨[], [], y, B, rfl, hb, by simpa using hb⟩
  | cons z a ih =>
    obtain ⟨A, x, y, B, h1, h2, h3⟩ := ih
    by_cases hz : z = c
    · refine ⟨[] :: A, x, y, B, ?_, h2, ?_⟩
      · unfold splitC; rw [if_pos hz, h1]; rfl
      · rw [List.cons_append]; unfold splitC; rw [if_pos hz, h3]; rfl
    · cases A with
      | nil =>
        refine ⟨[], z :: x, y, B, ?_, h2, ?_⟩
        · unfold splitC; rw [if_neg hz, h1]; rfl
        · rw [List.cons_append]; unfold splitC; rw [if_neg hz, h3]; rfl
      | cons d A =>
        refine ⟨(z :: d) :: A, x, y, B, ?_, h2, ?_⟩
        · unfold splitC; rw [if_neg hz, h1]; rfl
        · rw [List.cons_append]; unfold splitC; rw [if_neg hz, h3]; rfl
/-- How many lines there are: one more than bytes 10. -/
theorem split_cnt (c : UInt8) (l : List UInt8) : (splitC c l).length = l.count c + 1 := by
  induction l with
  | nil => rfl
  | cons x r ih =>
    unfold splitC
    by_cases hx : x = c
    · rw [if_pos hx, hx, List.count_cons_self, List.length_cons, ih]
    · rw [if_neg hx, List.count_cons_of_ne (fun e => hx e)]
      have hne := split_ne c r
      revert ih hne
      cases splitC c r with
      | nil => intro _ h; exact absurd rfl h
      | cons p ps => intro ih _; simpa using ih
theorem read_more {s t : List UInt8} (h : (readR s).1 = 0) (ht : t ≠ []) (hl : s.length + t.length ≤ 16777216) : (readR (s ++ t)).1 = 2 ∧ (readR (s ++ t)).2.1 = (s.count 10 : Int) + 1 := by
  obtain ⟨-, p, D, hs, hp, hd, hm, -⟩ := read_ok h
  have hc := split_cnt 10 s
  rw [hs] at hc
  obtain ⟨A, x, y, B, h1, h2, h3⟩ := split_app 10 s t
  have hA : A = p :: D ∧ x = [] := by
    have := hs.symm.trans h1
    have e := List.append_inj' this rfl
    exact ⟨e.1.symm, (List.cons.inj e.2).1.symm⟩
  obtain ⟨rfl, rfl⟩ := hA
  have key : readP ((p :: D) ++ ([] ++ y) :: B) = (2, ((D.length : Nat) : Int) + 2, headN p, []) := by
    rw [List.nil_append]
    obtain ⟨q, r, hqr⟩ : ∃ q r, D ++ y :: B = q :: r := by
      cases h : D ++ y :: B with
      | nil => simp at h
      | cons q r => exact ⟨q, r, rfl⟩
    have hgo : goR (headN p) (headM p) [] 1 (D ++ y :: B) = (2, (D.length : Int) + 2, []) := by
      rw [go_run D hd (by simpa using Int.le_of_eq hm) (by simp)]
      have hlen : ((([] : List Ed) ++ D.map fun d => edgeX d (headN p)).length : Int) = headM p := by simpa using hm
      cases B with
      | nil =>
        have hy : y ≠ [] := by
          rintro rfl
          have hj := join_split 10 t
          rw [h2] at hj
          exact ht hj.symm
        rw [go_one, if_pos (Or.inl hy)]
        simp; omega
      | cons b B =>
        rw [go_more, if_pos hlen]
        simp; omega
    rw [List.cons_append, hqr]
    rw [read_more2, if_neg (by simpa using hp), ← hqr, hgo]
  unfold readR
  rw [if_neg (by rw [List.length_append]; omega), h3, key]
  simp at hc
  exact ⟨rfl, by simp only; omega⟩
theorem read_cut {s : List UInt8} (h : (readR s).1 = 0) {cut : Nat} (hc : cut < s.length) : (readR (s.take cut)).1 = 2 ∧ 1 ≤ (readR (s.take cut)).2.1 ∧ (readR (s.take cut)).2.1 < (s.count 10 : Int) + 1 := by
  obtain ⟨hsl, p, D, hs, hp, hd, hm, -⟩ := read_ok h
  have hcnt := split_cnt 10 s
  obtain ⟨A, x, y, B, h1, h2, h3⟩ := split_app 10 (s.take cut) (s.drop cut)
  rw [List.take_append_drop] at h3
  rw [hs] at h3 hcnt
  have hB : B ≠ [] := by
    rintro rfl
    have e := List.append_inj' h3 rfl
    have e2 : x ++ y = [] := (List.cons.inj e.2).1.symm
    have hj := join_split 10 (s.drop cut)
    rw [h2, (List.append_eq_nil_iff.1 e2).2] at hj
    have := congrArg List.length hj
    rw [List.length_drop] at this
    simp [joinC] at this
    omega
  have hBl : 0 < B.length := List.length_pos_iff.2 hB
  have hlen := congrArg List.length h3
  simp at hlen hcnt
  unfold readR
  rw [if_neg (by rw [List.length_take]; omega), h1]
  cases A with
  | nil =>
    unfold readP
    simp
    omega
  | cons a A =>
    rw [List.cons_append, List.cons_append] at h3
    obtain ⟨rfl, h4⟩ := List.cons.inj h3
    have hA : ∃ E, D = A ++ E := by
      have h5 : A <+: D ++ [[]] := ⟨(x ++ y) :: B, h4.symm⟩
      have h6 : A.length ≤ D.length := by
        have := congrArg List.length h4
        simp at this
        omega
      have := List.prefix_of_prefix_length_le h5 (List.prefix_append D [[]]) h6
      obtain ⟨E, hE⟩ := this
      exact ⟨E, hE.symm⟩
    obtain ⟨E, rfl⟩ := hA
    simp at hlen
    obtain ⟨q, r, hqr⟩ : ∃ q r, A ++ [x] = q :: r := by
      cases h : A ++ [x] with
      | nil => simp at h
      | cons q r => exact ⟨q, r, rfl⟩
    have hgo : goR (headN p) (headM p) [] 1 (A ++ [x]) = (2, (A.length : Int) + 2, []) := by
      rw [List.length_append] at hm
      rw [go_run A (fun d hd' => hd d (by simp [hd'])) (by simp; omega) (by simp)]
      rw [go_one, if_pos (Or.inr (by simp; omega))]
      simp; omega
    rw [List.cons_append, hqr]
    rw [read_more2, if_neg (by simpa using hp), ← hqr, hgo]
    simp only
    exact ⟨trivial, by omega, by simp at hcnt; omega⟩
end Go.Proofs.YtmohfmhkhldhnaaGreat.GrPure
