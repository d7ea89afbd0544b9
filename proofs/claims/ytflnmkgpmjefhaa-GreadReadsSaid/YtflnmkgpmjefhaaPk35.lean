/- A text read as a graph byte by byte, plainly: what is known at a byte (Rd), and what each byte tells. No program in sight. -/
import Derived.Test.YtflnmkgpmjefhaaPk6
namespace Go.Proofs.Ytflnmkgpmjefhaa.GrPure
open EdPure DecPure WordPure
/-- At byte i, the line from f on, behind k whole lines: n vertices, m edges (-1: no first line so far), and the edges so far. -/
def Rd (s : List UInt8) (f i k : Nat) (n m : Int) (L : List Ed) : Prop :=
  f ≤ i ∧ i ≤ s.length ∧ NoC 10 ((s.drop f).take (i - f)) ∧ k ≤ f ∧ L.length ≤ k ∧ (∀ e ∈ L, chkE n e = 0) ∧
  ((k = 0 ∧ f = 0 ∧ n = 0 ∧ m = -1 ∧ L = []) ∨ (1 ≤ k ∧ (0 ≤ n ∧ n ≤ 4096) ∧ (L.length : Int) ≤ m ∧ m ≤ 1048576 ∧
    readP (splitC 10 s) = ((goR n m L k (splitC 10 (s.drop f))).1, (goR n m L k (splitC 10 (s.drop f))).2.1, n, (goR n m L k (splitC 10 (s.drop f))).2.2)))
theorem Rd.start (s : List UInt8) : Rd s 0 0 0 0 (-1) [] := ⟨Nat.le_refl _, Nat.zero_le _, fun x hx => by simp at hx, Nat.le_refl _, Nat.le_refl _, fun e he => by simp at he, Or.inl ⟨rfl, rfl, rfl, rfl, rfl⟩⟩
theorem Rd.skip {s : List UInt8} {f i k : Nat} {n m : Int} {L : List Ed} (h : Rd s f i k n m L) (hi : i < s.length) (hc : s[i] ≠ 10) : Rd s f (i + 1) k n m L := by
  obtain ⟨h1, h2, h3, h4⟩ := h
  refine ⟨by omega, hi, fun x hx => ?_, h4⟩
  rw [mid_snoc s f i h1 hi, List.mem_append] at hx
  rcases hx with hx | hx
  · exact h3 x hx
  · rw [List.mem_singleton.1 hx]; exact hc
/-- The line that ends here. -/
def lnA (s : List UInt8) (f i : Nat) : List UInt8 := (s.drop f).take (i - f)
theorem drop_hit {s : List UInt8} {f i : Nat} (h1 : f ≤ i) (h3 : NoC 10 ((s.drop f).take (i - f))) (hi : i < s.length) (hc : s[i] = 10) :
    ∃ q R, splitC 10 (s.drop (i + 1)) = q :: R ∧ splitC 10 (s.drop f) = lnA s f i :: q :: R := by
  obtain ⟨q, R, hq⟩ : ∃ q R, splitC 10 (s.drop (i + 1)) = q :: R := by
    cases h : splitC 10 (s.drop (i + 1)) with
    | nil => exact absurd h (split_ne _ _)
    | cons q R => exact ⟨q, R, rfl⟩
  refine ⟨q, R, hq, ?_⟩
  rw [mid_hit s f i h1 hi, hc, split_hit _ _ h3, hq]
  rfl
theorem Rd.first_bad {s : List UInt8} {f i : Nat} {n m : Int} {L : List Ed} (h : Rd s f i 0 n m L) (hi : i < s.length) (hc : s[i] = 10) (he : headE (lnA s f i) ≠ 0) : readP (splitC 10 s) = (headE (lnA s f i), 1, 0, []) := by
  obtain ⟨h1, h2, h3, h4, h5, h6, ⟨-, rfl, rfl, rfl, rfl⟩ | ⟨h7, -⟩⟩ := h
  · obtain ⟨q, R, -, hs⟩ := drop_hit h1 h3 hi hc
    rw [List.drop_zero] at hs
    rw [hs, read_more2, if_pos he]
  · omega
theorem Rd.first {s : List UInt8} {f i : Nat} {n m : Int} {L : List Ed} (h : Rd s f i 0 n m L) (hi : i < s.length) (hc : s[i] = 10) (he : headE (lnA s f i) = 0) :
    Rd s (i + 1) (i + 1) 1 (headN (lnA s f i)) (headM (lnA s f i)) [] ∧ L = [] := by
  obtain ⟨h1, h2, h3, h4, h5, h6, ⟨-, rfl, rfl, rfl, rfl⟩ | ⟨h7, -⟩⟩ := h
  · obtain ⟨q, R, hq, hs⟩ := drop_hit h1 h3 hi hc
    rw [List.drop_zero] at hs
    obtain ⟨⟨a1, a2⟩, a3, a4⟩ := head_rng he
    refine ⟨⟨Nat.le_refl _, hi, fun x hx => by simp at hx, by omega, by simp, fun e he => by simp at he, Or.inr ⟨Nat.le_refl _, ⟨a1, a2⟩, by simpa using a3, a4, ?_⟩⟩, rfl⟩
    rw [hs, read_more2, if_neg (by simpa using he), hq]
  · omega
theorem Rd.more {s : List UInt8} {f i k : Nat} {n m : Int} {L : List Ed} (h : Rd s f i k n m L) (hk : 1 ≤ k) : (0 ≤ n ∧ n ≤ 4096) ∧ (L.length : Int) ≤ m ∧ m ≤ 1048576 ∧
    readP (splitC 10 s) = ((goR n m L k (splitC 10 (s.drop f))).1, (goR n m L k (splitC 10 (s.drop f))).2.1, n, (goR n m L k (splitC 10 (s.drop f))).2.2) := by
  rcases h.2.2.2.2.2.2 with h | h
  · omega
  · exact h.2
theorem Rd.full {s : List UInt8} {f i k : Nat} {n m : Int} {L : List Ed} (h : Rd s f i k n m L) (hk : 1 ≤ k) (hi : i < s.length) (hc : s[i] = 10) (hm : (L.length : Int) = m) : (readP (splitC 10 s)).1 = 2 ∧ (readP (splitC 10 s)).2.1 = (k : Int) + 1 := by
  obtain ⟨-, -, -, h7⟩ := h.more hk
  obtain ⟨q, R, -, hs⟩ := drop_hit h.1 h.2.2.1 hi hc
  rw [h7, hs, go_more, if_pos hm]
  exact ⟨rfl, rfl⟩
theorem Rd.line_bad {s : List UInt8} {f i k : Nat} {n m : Int} {L : List Ed} (h : Rd s f i k n m L) (hk : 1 ≤ k) (hi : i < s.length) (hc : s[i] = 10) (hm : (L.length : Int) ≠ m) (he : edgeE (lnA s f i) n ≠ 0) :
    (readP (splitC 10 s)).1 = edgeE (lnA s f i) n ∧ (readP (splitC 10 s)).2.1 = (k : Int) + 1 := by
  obtain ⟨-, -, -, h7⟩ := h.more hk
  obtain ⟨q, R, -, hs⟩ := drop_hit h.1 h.2.2.1 hi hc
  rw [h7, hs, go_more, if_neg hm, if_pos he]
  exact ⟨rfl, rfl⟩
theorem Rd.line {s : List UInt8} {f i k : Nat} {n m : Int} {L : List Ed} (h : Rd s f i k n m L) (hk : 1 ≤ k) (hi : i < s.length) (hc : s[i] = 10) (hm : (L.length : Int) ≠ m) (he : edgeE (lnA s f i) n = 0) :
    Rd s (i + 1) (i + 1) (k + 1) n m (L ++ [edgeX (lnA s f i) n]) := by
  obtain ⟨h5, h6, h8, h7⟩ := h.more hk
  obtain ⟨q, R, hq, hs⟩ := drop_hit h.1 h.2.2.1 hi hc
  refine ⟨Nat.le_refl _, hi, fun x hx => by simp at hx, ?_, ?_, fun e hm => ?_, Or.inr ⟨by omega, h5, ?_, h8, ?_⟩⟩
  · have := h.1; have := h.2.2.2.1; omega
  · rw [List.length_append, List.length_singleton]; have := h.2.2.2.2.1; omega
  · rw [List.mem_append] at hm
    rcases hm with hm | hm
    · exact h.2.2.2.2.2.1 e hm
    · rw [List.mem_singleton.1 hm]; exact edge_chk he
  · rw [List.length_append, List.length_singleton]; omega
  · rw [h7, hs, go_more, if_neg hm, if_neg (by simpa using he), hq]
theorem Rd.rest {s : List UInt8} {f i k : Nat} {n m : Int} {L : List Ed} (h : Rd s f i k n m L) (hi : ¬ i < s.length) : splitC 10 (s.drop f) = [s.drop f] := by
  have h3 := h.2.2.1
  rw [List.take_of_length_le (by rw [List.length_drop]; omega)] at h3
  exact split_none h3
theorem Rd.end_bad {s : List UInt8} {f i k : Nat} {n m : Int} {L : List Ed} (h : Rd s f i k n m L) (hi : ¬ i < s.length) (hb : f < s.length ∨ (L.length : Int) ≠ m) : (readP (splitC 10 s)).1 = 2 ∧ (readP (splitC 10 s)).2.1 = (k : Int) + 1 := by
  have hr := h.rest hi
  obtain ⟨h1, h2, h3, h4, h5, h6, ⟨rfl, rfl, rfl, rfl, rfl⟩ | ⟨h7, -, -, -, h8⟩⟩ := h
  · rw [List.drop_zero] at hr
    rw [hr, read_one]
    exact ⟨rfl, rfl⟩
  · rw [h8, hr, go_one, if_pos (by
      rcases hb with hb | hb
      · left; intro e; have := congrArg List.length e; rw [List.length_drop] at this; simp at this; omega
      · exact Or.inr hb)]
    exact ⟨rfl, rfl⟩
theorem Rd.end_good {s : List UInt8} {f i k : Nat} {n m : Int} {L : List Ed} (h : Rd s f i k n m L) (hi : ¬ i < s.length) (hb : ¬ (f < s.length ∨ (L.length : Int) ≠ m)) :
    readP (splitC 10 s) = (0, 0, n, L) ∧ (0 ≤ n ∧ n ≤ 4096) ∧ L.length ≤ 1048576 := by
  have hr := h.rest hi
  have hlen : (L.length : Int) = m := Decidable.byContradiction fun e => hb (Or.inr e)
  obtain ⟨h1, h2, h3, h4, h5, h6, ⟨rfl, rfl, rfl, rfl, rfl⟩ | ⟨h7, h9, h10, h11, h8⟩⟩ := h
  · simp at hlen
  · refine ⟨?_, h9, by omega⟩
    have hd : s.drop f = [] := List.drop_eq_nil_iff.2 (by omega)
    rw [h8, hr, hd, go_one, if_neg (by rintro (h | h); exact h rfl; exact h hlen)]
theorem chk_inL {n : Int} {L : List Ed} (hn : n ≤ 4096) (h : ∀ e ∈ L, chkE n e = 0) : InL L := fun e he => by
  have := h e he
  unfold chkE at this
  split at this
  · next h1 =>
    split at this
    · next h2 => unfold InE; refine ⟨?_, ?_, ?_⟩ <;> (try constructor) <;> omega
    · cases this
  · cases this
end Go.Proofs.Ytflnmkgpmjefhaa.GrPure
