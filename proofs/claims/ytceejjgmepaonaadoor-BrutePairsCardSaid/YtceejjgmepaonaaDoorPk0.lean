/- Sets of vertices as bits of words, in plain numbers: what the words tell, listed and counted. No function of the program is named. -/
import Derived.Lib.TrailingZeros
import Derived.Laws.Bits64b
import Derived.Laws.Bits64
import Derived.Laws.BitsLemmas
import Derived.WalkKit
namespace Go.Proofs.YtceejjgmepaonaaDoor.VsetPure
open Go
/-- The numbers below n of which p tells, rising. -/
def listP (p : Nat → Bool) (n : Nat) : List Nat := (List.range n).filter p
theorem listP_zero (p : Nat → Bool) : listP p 0 = [] := rfl
theorem listP_succ (p : Nat → Bool) (n : Nat) : listP p (n + 1) = listP p n ++ (if p n then [n] else []) := by
  unfold listP
  rw [List.range_succ, List.filter_append]
  cases h : p n <;> simp [h]
theorem listP_congr {p q : Nat → Bool} {n : Nat} (h : ∀ v, v < n → p v = q v) : listP p n = listP q n := by
  unfold listP
  apply List.filter_congr
  intro v hv
  exact h v (List.mem_range.1 hv)
theorem listP_none {p : Nat → Bool} {n : Nat} (h : ∀ v, v < n → p v = false) : listP p n = [] := by
  unfold listP
  rw [List.filter_eq_nil_iff]
  intro v hv
  rw [h v (List.mem_range.1 hv)]
  simp
theorem listP_add (p : Nat → Bool) (m n : Nat) : listP p (m + n) = listP p m ++ (listP (fun j => p (m + j)) n).map (m + ·) := by
  unfold listP
  rw [List.range_add, List.filter_append, List.filter_map]
  rfl
theorem listP_past {p : Nat → Bool} {n N : Nat} (hN : n ≤ N) (h : ∀ v, n ≤ v → p v = false) : listP p N = listP p n := by
  obtain ⟨k, rfl⟩ : ∃ k, N = n + k := ⟨N - n, by omega⟩
  rw [listP_add, listP_none (p := fun j => p (n + j)) (fun v _ => h _ (by omega))]
  simp
theorem listP_len (p : Nat → Bool) (n : Nat) : (listP p n).length ≤ n := by
  have := List.length_filter_le p (List.range n)
  rw [List.length_range] at this
  exact this
theorem listP_mem {p : Nat → Bool} {n v : Nat} : v ∈ listP p n ↔ v < n ∧ p v = true := by
  unfold listP
  rw [List.mem_filter, List.mem_range]
theorem listP_inj {p q : Nat → Bool} {n m : Nat} (hp : ∀ v, n ≤ v → p v = false) (hq : ∀ v, m ≤ v → q v = false) (h : listP p n = listP q m) : p = q := by
  funext v
  have h1 : (v ∈ listP p n) = (v ∈ listP q m) := by rw [h]
  rw [listP_mem, listP_mem] at h1
  have hpv := hp v
  have hqv := hq v
  cases hp' : p v <;> cases hq' : q v <;> simp_all <;> omega
theorem listP_compl (p q : Nat → Bool) : ∀ n, (∀ v, v < n → q v = !p v) → (listP p n).length + (listP q n).length = n
  | 0, _ => rfl
  | n + 1, h => by
    have ih := listP_compl p q n (fun v hv => h v (by omega))
    rw [listP_succ, listP_succ, h n (by omega)]
    cases p n <;> simp <;> omega
/-- The first one of a list: below it there is none; q tells of the others. -/
theorem listP_head {p q : Nat → Bool} {t : Nat} (h1 : p t = true) (h2 : ∀ j, j < t → p j = false) (h3 : ∀ j, q j = (p j && decide (j ≠ t))) : ∀ n, t < n → listP p n = t :: listP q n
  | 0, h => by omega
  | n + 1, h => by
    rw [listP_succ, listP_succ]
    by_cases hn : t < n
    · rw [listP_head h1 h2 h3 n hn, h3 n]
      have : decide (n ≠ t) = true := decide_eq_true (by omega)
      rw [this, Bool.and_true]
      rfl
    · have he : n = t := by omega
      subst he
      rw [listP_none h2, listP_none (p := q) (fun v hv => by rw [h3, h2 v hv]; rfl), h1, h3 n]
      simp
/-- Is the vertex told of by the words? -/
def bitOf (ws : List Nat) (v : Nat) : Bool := (ws.getD (v / 64) 0).testBit (v % 64)
/-- The bits of a word, rising. -/
def bitsOf (x : Nat) : List Nat := listP x.testBit 64
def cnt (x : Nat) : Nat := (bitsOf x).length
def Wordy (ws : List Nat) : Prop := ∀ x ∈ ws, x < 18446744073709551616
theorem Wordy.at {ws : List Nat} (h : Wordy ws) (k : Nat) : ws.getD k 0 < 18446744073709551616 := by
  rw [List.getD_eq_getElem?_getD]
  by_cases hk : k < ws.length
  · rw [List.getElem?_eq_getElem hk]; exact h _ (List.getElem_mem hk)
  · rw [List.getElem?_eq_none (by omega)]; decide
theorem Wordy.set {ws : List Nat} (h : Wordy ws) (k x : Nat) (hx : x < 18446744073709551616) : Wordy (ws.set k x) := by
  intro y hy
  rcases List.mem_or_eq_of_mem_set hy with h1 | rfl
  · exact h y h1
  · exact hx
theorem cnt_le (x : Nat) : cnt x ≤ 64 := listP_len _ _
/-- What is told of one word more. -/
theorem words_next (ws : List Nat) (k : Nat) : listP (bitOf ws) (64 * (k + 1)) = listP (bitOf ws) (64 * k) ++ (bitsOf (ws.getD k 0)).map (64 * k + ·) := by
  rw [show 64 * (k + 1) = 64 * k + 64 by omega, listP_add]
  congr 2
  apply listP_congr
  intro v hv
  unfold bitOf
  rw [show (64 * k + v) / 64 = k by omega, show (64 * k + v) % 64 = v by omega]
theorem bits_zero : bitsOf 0 = [] := listP_none (fun v _ => by simp)
def tz (x : Nat) : Nat := Lib.ctz 64 x
theorem tz_spec (x : Nat) (h0 : x ≠ 0) (h : x < 18446744073709551616) : ∃ m, x = 2 ^ tz x * (2 * m + 1) ∧ tz x < 64 := by
  obtain ⟨m, hm, hk⟩ := Lib.ctzFrom_spec 64 x (by omega) h
  have e : tz x = Lib.ctzFrom 64 x := by simp [tz, Lib.ctz, h0]
  rw [e]
  exact ⟨m, hm, hk⟩
/-- A word without its lowest bit. -/
theorem low_bits (t m j : Nat) : (2 ^ t * (2 * m + 1)).testBit j = (decide (t ≤ j) && (decide (j = t) || m.testBit (j - t - 1))) ∧
    (2 ^ t * (2 * m + 1) - 1).testBit j = (decide (j < t) || (decide (t < j) && m.testBit (j - t - 1))) := by
  have hp := Nat.two_pow_pos t
  constructor
  · rw [Nat.mul_comm, Nat.testBit_mul_two_pow]
    by_cases h1 : t ≤ j
    · obtain ⟨d, rfl⟩ : ∃ d, j = t + d := ⟨j - t, by omega⟩
      rw [Nat.add_sub_cancel_left]
      cases d with
      | zero => simp
      | succ d =>
        have : (t + (d + 1) = t) = False := by simp
        simp only [this, decide_false, Bool.false_or, Nat.add_sub_cancel]
        congr 1
        rw [Nat.testBit_succ]
        congr 1
        omega
    · simp [h1]
  · have e : 2 ^ t * (2 * m + 1) - 1 = 2 ^ t * (2 * m) + (2 ^ t - 1) := by
      rw [Nat.mul_add]; omega
    rw [e, Nat.testBit_two_pow_mul_add _ (by omega)]
    by_cases h1 : j < t
    · simp [h1, Nat.testBit_two_pow_sub_one]
    · obtain ⟨d, rfl⟩ : ∃ d, j = t + d := ⟨j - t, by omega⟩
      have h2 : (decide (t + d < t)) = false := decide_eq_false (by omega)
      rw [if_neg h1, h2, Nat.add_sub_cancel_left, Bool.false_or]
      cases d with
      | zero => simp
      | succ d =>
        have : decide (t < t + (d + 1)) = true := decide_eq_true (by omega)
        rw [this, Bool.true_and, Nat.testBit_succ, Nat.add_sub_cancel]
        congr 1
        omega
theorem bits_step (x : Nat) (h0 : x ≠ 0) (h : x < 18446744073709551616) : bitsOf x = tz x :: bitsOf (x &&& (x - 1)) := by
  obtain ⟨m, hm, ht⟩ := tz_spec x h0 h
  refine listP_head (t := tz x) ?_ ?_ ?_ 64 ht
  · have := (low_bits (tz x) m (tz x)).1
    rw [← hm] at this
    rw [this]
    simp
  · intro j hj
    have := (low_bits (tz x) m j).1
    rw [← hm] at this
    rw [this]
    have : decide (tz x ≤ j) = false := decide_eq_false (by omega)
    rw [this]; rfl
  · intro j
    obtain ⟨h1, h2⟩ := low_bits (tz x) m j
    rw [← hm] at h1 h2
    rw [Nat.testBit_and, h1, h2]
    by_cases a : j < tz x
    · simp [a]; omega
    · by_cases b : j = tz x
      · simp [b]
      · have c : tz x < j := by omega
        have d : tz x ≤ j := by omega
        simp [a, b, c, d]
/-! ### words that are turned -/
theorem bit_set {ws : List Nat} {k : Nat} (hk : k < ws.length) (x v : Nat) : bitOf (ws.set k x) v = if v / 64 = k then x.testBit (v % 64) else bitOf ws v := by
  unfold bitOf
  rw [List.getD_eq_getElem?_getD, List.getElem?_set, List.getD_eq_getElem?_getD]
  by_cases h : k = v / 64
  · have : v / 64 < ws.length := by omega
    simp [h, this]
  · have h2 : ¬ v / 64 = k := fun e => h e.symm
    simp [h, h2]
theorem put_bit {ws : List Nat} {u : Nat} (hu : u / 64 < ws.length) (v : Nat) : bitOf (ws.set (u / 64) (ws.getD (u / 64) 0 ||| 2 ^ (u % 64))) v = (decide (v = u) || bitOf ws v) := by
  rw [bit_set hu]
  by_cases h : v / 64 = u / 64
  · rw [if_pos h, Nat.testBit_or, Nat.testBit_two_pow]
    unfold bitOf
    rw [h, Bool.or_comm]
    congr 1
    exact decide_eq_decide.2 ⟨fun e => by omega, fun e => by omega⟩
  · rw [if_neg h, show decide (v = u) = false from decide_eq_false (fun e => h (by rw [e])), Bool.false_or]
theorem not_bit (x j : Nat) (hx : x < 18446744073709551616) : (18446744073709551615 - x).testBit j = (decide (j < 64) && !x.testBit j) := by
  rw [show 18446744073709551615 - x = 2 ^ 64 - (x + 1) by omega]
  exact Nat.testBit_two_pow_sub_succ (n := 64) hx j
theorem drop_bit {ws : List Nat} {u : Nat} (hu : u / 64 < ws.length) (v : Nat) : bitOf (ws.set (u / 64) (ws.getD (u / 64) 0 &&& (18446744073709551615 - 2 ^ (u % 64)))) v = (decide (v ≠ u) && bitOf ws v) := by
  have hp : 2 ^ (u % 64) < 18446744073709551616 := Nat.lt_of_lt_of_le (Nat.pow_lt_pow_right (by decide) (show u % 64 < 64 by omega)) (by decide)
  rw [bit_set hu]
  by_cases h : v / 64 = u / 64
  · rw [if_pos h, Nat.testBit_and, not_bit _ _ hp, Nat.testBit_two_pow]
    unfold bitOf
    rw [h, Bool.and_comm]
    congr 1
    by_cases e : v = u
    · subst e; simp
    · have : ¬ u % 64 = v % 64 := by omega
      simp [e, this]; omega
  · rw [if_neg h, show decide (v ≠ u) = true from decide_eq_true (fun e => h (by rw [e])), Bool.true_and]
theorem has_bit (x k : Nat) (hx : x < 18446744073709551616) (hk : k < 64) : (bits .and .u64 (x : Int) ((2 ^ k : Nat) : Int) != 0) = x.testBit k := by
  have hp : 2 ^ k < 18446744073709551616 := Nat.lt_of_lt_of_le (Nat.pow_lt_pow_right (by decide) hk) (by decide)
  rw [bits_and_u64_nat _ _ hx hp]
  have e : (x &&& 2 ^ k = 0) ↔ x.testBit k = false := by
    constructor
    · intro h
      have := congrArg (fun n => n.testBit k) h
      simpa [Nat.testBit_and] using this
    · intro h
      apply Nat.eq_of_testBit_eq
      intro j
      rw [Nat.testBit_and, Nat.testBit_two_pow]
      by_cases hj : k = j
      · subst hj; simp [h]
      · simp [hj]
  cases h : x.testBit k
  · rw [e.2 h]; rfl
  · have h0 : x &&& 2 ^ k ≠ 0 := fun z => by rw [e.1 z] at h; cases h
    have h2 : ((x &&& 2 ^ k : Nat) : Int) ≠ 0 := by omega
    simpa using h2
theorem other_bit (ws vs : List Nat) (h : vs.length = ws.length) (hw : Wordy ws) (hv : ∀ k, k < ws.length → vs.getD k 0 = 18446744073709551615 - ws.getD k 0) (v : Nat) : bitOf vs v = (decide (v < 64 * ws.length) && !bitOf ws v) := by
  unfold bitOf
  by_cases hl : v / 64 < ws.length
  · rw [hv _ hl, not_bit _ _ (hw.at _)]
    have h1 : v % 64 < 64 := by omega
    have h2 : v < 64 * ws.length := by omega
    simp [h1, h2]
  · have h2 : ¬ v < 64 * ws.length := by omega
    have h3 : vs.getD (v / 64) 0 = 0 := by
      rw [List.getD_eq_getElem?_getD, List.getElem?_eq_none (by omega)]; rfl
    rw [h3]
    simp [h2]
theorem mask_bit {vs : List Nat} {n : Nat} (hn : n % 64 ≠ 0) (hl : vs.length = (n + 63) / 64) (v : Nat) :
    bitOf (vs.set (vs.length - 1) (vs.getD (vs.length - 1) 0 &&& (2 ^ (n % 64) - 1))) v = (decide (v < n) && bitOf vs v) := by
  rw [bit_set (by omega)]
  by_cases h : v / 64 = vs.length - 1
  · rw [if_pos h, Nat.testBit_and, Nat.testBit_two_pow_sub_one]
    unfold bitOf
    rw [h, Bool.and_comm]
    congr 1
    exact decide_eq_decide.2 ⟨fun e => by omega, fun e => by omega⟩
  · rw [if_neg h]
    by_cases e : v < n
    · simp [e]
    · have : bitOf vs v = false := by
        unfold bitOf
        rw [List.getD_eq_getElem?_getD, List.getElem?_eq_none (by omega)]
        simp
      simp [this]
end Go.Proofs.YtceejjgmepaonaaDoor.VsetPure
