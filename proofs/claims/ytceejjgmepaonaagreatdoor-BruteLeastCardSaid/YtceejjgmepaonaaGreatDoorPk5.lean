/- Texts that the laws of this seat stand on, part 5. -/
import Derived.Lib.TrailingZeros
import Derived.Laws.Bits64b
import Derived.Laws.Bits64
import Derived.Laws.BitsLemmas
import Derived.WalkKit
import Derived.Test.YtceejjgmepaonaaGreatDoorPk4
import Derived.Laws.BitsAllLaws
import Derived.Shelf.Spec.TrailingZeros
import Derived.Test.YtceejjgmepaonaaGreatDoorProg
/- Sets of vertices as bits of words, in plain numbers: what the words tell, listed and counted. No function of the program is named. -/
namespace Go.Proofs.YtceejjgmepaonaaGreatDoor.VsetPure
open Go
/-- The numbers below n of which p tells, rising. -/
def listP (p : Nat → Bool) (n : Nat) : List Nat := (List.range n).filter p
theorem listP_zero (p : Nat → Bool) : listP p 0 = [] := rfl
theorem listP_succ (p : Nat → Bool) (n : Nat) : listP p (n + 1) = listP p n ++ (if p n then [n] else []) := by
  unfold listP
  rw [List.range_succ, List.filter_append]
  cases h : p n <;> simp [h]
theorem listP_congr {p q : Nat → Bool} {n : Nat} (h : ∀ v, v < n → p v = q v) : listP p n = listP q n := by
  unfold listP
  apply List.filter_congr
  intro v hv
  exact h v (List.mem_range.1 hv)
theorem listP_none {p : Nat → Bool} {n : Nat} (h : ∀ v, v < n → p v = false) : listP p n = [] := by
  unfold listP
  rw [List.filter_eq_nil_iff]
  intro v hv
  rw [h v (List.mem_range.1 hv)]
  simp
theorem listP_add (p : Nat → Bool) (m n : Nat) : listP p (m + n) = listP p m ++ (listP (fun j => p (m + j)) n).map (m + ·) := by
  unfold listP
  rw [List.range_add, List.filter_append, List.filter_map]
  rfl
theorem listP_past {p : Nat → Bool} {n N : Nat} (hN : n ≤ N) (h : ∀ v, n ≤ v → p v = false) : listP p N = listP p n := by
  obtain ⟨k, rfl⟩ : ∃ k, N = n + k := ⟨N - n, by omega⟩
  rw [listP_add, listP_none (p := fun j => p (n + j)) (fun v _ => h _ (by omega))]
  simp
theorem listP_len (p : Nat → Bool) (n : Nat) : (listP p n).length ≤ n := by
  have := List.length_filter_le p (List.range n)
  rw [List.length_range] at this
  exact this
theorem listP_mem {p : Nat → Bool} {n v : Nat} : v ∈ listP p n ↔ v < n ∧ p v = true := by
  unfold listP
  rw [List.mem_filter, List.mem_range]
theorem listP_inj {p q : Nat → Bool} {n m : Nat} (hp : ∀ v, n ≤ v → p v = false) (hq : ∀ v, m ≤ v → q v = false) (h : listP p n = listP q m) : p = q := by
  funext v
  have h1 : (v ∈ listP p n) = (v ∈ listP q m) := by rw [h]
  rw [listP_mem, listP_mem] at h1
  have hpv := hp v
  have hqv := hq v
  cases hp' : p v <;> cases hq' : q v <;> simp_all <;> omega
theorem listP_compl (p q : Nat → Bool) : ∀ n, (∀ v, v < n → q v = !p v) → (listP p n).length + (listP q n).length = n
  | 0, _ => rfl
  | n + 1, h => by
    have ih := listP_compl p q n (fun v hv => h v (by omega))
    rw [listP_succ, listP_succ, h n (by omega)]
    cases p n <;> simp <;> omega
/-- The first one of a list: below it there is none; q tells of the others. -/
theorem listP_head {p q : Nat → Bool} {t : Nat} (h1 : p t = true) (h2 : ∀ j, j < t → p j = false) (h3 : ∀ j, q j = (p j && decide (j ≠ t))) : ∀ n, t < n → listP p n = t :: listP q n
  | 0, h => by omega
  | n + 1, h => by
    rw [listP_succ, listP_succ]
    by_cases hn : t < n
    · rw [listP_head h1 h2 h3 n hn, h3 n]
      have : decide (n ≠ t) = true := decide_eq_true (by omega)
      rw [this, Bool.and_true]
      rfl
    · have he : n = t := by omega
      subst he
      rw [listP_none h2, listP_none (p := q) (fun v hv => by rw [h3, h2 v hv]; rfl), h1, h3 n]
      simp
/-- Is the vertex told of by the words? -/
def bitOf (ws : List Nat) (v : Nat) : Bool := (ws.getD (v / 64) 0).testBit (v % 64)
/-- The bits of a word, rising. -/
def bitsOf (x : Nat) : List Nat := listP x.testBit 64
def cnt (x : Nat) : Nat := (bitsOf x).length
def Wordy (ws : List Nat) : Prop := ∀ x ∈ ws, x < 18446744073709551616
theorem Wordy.at {ws : List Nat} (h : Wordy ws) (k : Nat) : ws.getD k 0 < 18446744073709551616 := by
  rw [List.getD_eq_getElem?_getD]
  by_cases hk : k < ws.length
  · rw [List.getElem?_eq_getElem hk]; exact h _ (List.getElem_mem hk)
  · rw [List.getElem?_eq_none (by omega)]; decide
theorem Wordy.set {ws : List Nat} (h : Wordy ws) (k x : Nat) (hx : x < 18446744073709551616) : Wordy (ws.set k x) := by
  intro y hy
  rcases List.mem_or_eq_of_mem_set hy with h1 | rfl
  · exact h y h1
  · exact hx
theorem cnt_le (x : Nat) : cnt x ≤ 64 := listP_len _ _
/-- What is told of one word more. -/
theorem words_next (ws : List Nat) (k : Nat) : listP (bitOf ws) (64 * (k + 1)) = listP (bitOf ws) (64 * k) ++ (bitsOf (ws.getD k 0)).map (64 * k + ·) := by
  rw [show 64 * (k + 1) = 64 * k + 64 by omega, listP_add]
  congr 2
  apply listP_congr
  intro v hv
  unfold bitOf
  rw [show (64 * k + v) / 64 = k by omega, show (64 * k + v) % 64 = v by omega]
theorem bits_zero : bitsOf 0 = [] := listP_none (fun v _ => by simp)
def tz (x : Nat) : Nat := Lib.ctz 64 x
theorem tz_spec (x : Nat) (h0 : x ≠ 0) (h : x < 18446744073709551616) : ∃ m, x = 2 ^ tz x * (2 * m + 1) ∧ tz x < 64 := by
  obtain ⟨m, hm, hk⟩ := Lib.ctzFrom_spec 64 x (by omega) h
  have e : tz x = Lib.ctzFrom 64 x := by simp [tz, Lib.ctz, h0]
  rw [e]
  exact ⟨m, hm, hk⟩
/-- A word without its lowest bit. -/
theorem low_bits (t m j : Nat) : (2 ^ t * (2 * m + 1)).testBit j = (decide (t ≤ j) && (decide (j = t) || m.testBit (j - t - 1))) ∧
    (2 ^ t * (2 * m + 1) - 1).testBit j = (decide (j < t) || (decide (t < j) && m.testBit (j - t - 1))) := by
  have hp := Nat.two_pow_pos t
  constructor
  · rw [Nat.mul_comm, Nat.testBit_mul_two_pow]
    by_cases h1 : t ≤ j
    · obtain ⟨d, rfl⟩ : ∃ d, j = t + d := ⟨j - t, by omega⟩
      rw [Nat.add_sub_cancel_left]
      cases d with
      | zero => simp
      | succ d =>
        have : (t + (d + 1) = t) = False := by simp
        simp only [this, decide_false, Bool.false_or, Nat.add_sub_cancel]
        congr 1
        rw [Nat.testBit_succ]
        congr 1
        omega
    · simp [h1]
  · have e : 2 ^ t * (2 * m + 1) - 1 = 2 ^ t * (2 * m) + (2 ^ t - 1) := by
      rw [Nat.mul_add]; omega
    rw [e, Nat.testBit_two_pow_mul_add _ (by omega)]
    by_cases h1 : j < t
    · simp [h1, Nat.testBit_two_pow_sub_one]
    · obtain ⟨d, rfl⟩ : ∃ d, j = t + d := ⟨j - t, by omega⟩
      have h2 : (decide (t + d < t)) = false := decide_eq_false (by omega)
      rw [if_neg h1, h2, Nat.add_sub_cancel_left, Bool.false_or]
      cases d with
      | zero => simp
      | succ d =>
        have : decide (t < t + (d + 1)) = true := decide_eq_true (by omega)
        rw [this, Bool.true_and, Nat.testBit_succ, Nat.add_sub_cancel]
        congr 1
        omega
theorem bits_step (x : Nat) (h0 : x ≠ 0) (h : x < 18446744073709551616) : bitsOf x = tz x :: bitsOf (x &&& (x - 1)) := by
  obtain ⟨m, hm, ht⟩ := tz_spec x h0 h
  refine listP_head (t := tz x) ?_ ?_ ?_ 64 ht
  · have := (low_bits (tz x) m (tz x)).1
    rw [← hm] at this
    rw [this]
    simp
  · intro j hj
    have := (low_bits (tz x) m j).1
    rw [← hm] at this
    rw [this]
    have : decide (tz x ≤ j) = false := decide_eq_false (by omega)
    rw [this]; rfl
  · intro j
    obtain ⟨h1, h2⟩ := low_bits (tz x) m j
    rw [← hm] at h1 h2
    rw [Nat.testBit_and, h1, h2]
    by_cases a : j < tz x
    · simp [a]; omega
    · by_cases b : j = tz x
      · simp [b]
      · have c : tz x < j := by omega
        have d : tz x ≤ j := by omega
        simp [a, b, c, d]
/-! ### words that are turned -/
theorem bit_set {ws : List Nat} {k : Nat} (hk : k < ws.length) (x v : Nat) : bitOf (ws.set k x) v = if v / 64 = k then x.testBit (v % 64) else bitOf ws v := by
  unfold bitOf
  rw [List.getD_eq_getElem?_getD, List.getElem?_set, List.getD_eq_getElem?_getD]
  by_cases h : k = v / 64
  · have : v / 64 < ws.length := by omega
    simp [h, this]
  · have h2 : ¬ v / 64 = k := fun e => h e.symm
    simp [h, h2]
theorem put_bit {ws : List Nat} {u : Nat} (hu : u / 64 < ws.length) (v : Nat) : bitOf (ws.set (u / 64) (ws.getD (u / 64) 0 ||| 2 ^ (u % 64))) v = (decide (v = u) || bitOf ws v) := by
  rw [bit_set hu]
  by_cases h : v / 64 = u / 64
  · rw [if_pos h, Nat.testBit_or, Nat.testBit_two_pow]
    unfold bitOf
    rw [h, Bool.or_comm]
    congr 1
    exact decide_eq_decide.2 ⟨fun e => by omega, fun e => by omega⟩
  · rw [if_neg h, show decide (v = u) = false from decide_eq_false (fun e => h (by rw [e])), Bool.false_or]
theorem not_bit (x j : Nat) (hx : x < 18446744073709551616) : (18446744073709551615 - x).testBit j = (decide (j < 64) && !x.testBit j) := by
  rw [show 18446744073709551615 - x = 2 ^ 64 - (x + 1) by omega]
  exact Nat.testBit_two_pow_sub_succ (n := 64) hx j
theorem drop_bit {ws : List Nat} {u : Nat} (hu : u / 64 < ws.length) (v : Nat) : bitOf (ws.set (u / 64) (ws.getD (u / 64) 0 &&& (18446744073709551615 - 2 ^ (u % 64)))) v = (decide (v ≠ u) && bitOf ws v) := by
  have hp : 2 ^ (u % 64) < 18446744073709551616 := Nat.lt_of_lt_of_le (Nat.pow_lt_pow_right (by decide) (show u % 64 < 64 by omega)) (by decide)
  rw [bit_set hu]
  by_cases h : v / 64 = u / 64
  · rw [if_pos h, Nat.testBit_and, not_bit _ _ hp, Nat.testBit_two_pow]
    unfold bitOf
    rw [h, Bool.and_comm]
    congr 1
    by_cases e : v = u
    · subst e; simp
    · have : ¬ u % 64 = v % 64 := by omega
      simp [e, this]; omega
  · rw [if_neg h, show decide (v ≠ u) = true from decide_eq_true (fun e => h (by rw [e])), Bool.true_and]
theorem has_bit (x k : Nat) (hx : x < 18446744073709551616) (hk : k < 64) : (bits .and .u64 (x : Int) ((2 ^ k : Nat) : Int) != 0) = x.testBit k := by
  have hp : 2 ^ k < 18446744073709551616 := Nat.lt_of_lt_of_le (Nat.pow_lt_pow_right (by decide) hk) (by decide)
  rw [bits_and_u64_nat _ _ hx hp]
  have e : (x &&& 2 ^ k = 0) ↔ x.testBit k = false := by
    constructor
    · intro h
      have := congrArg (fun n => n.testBit k) h
      simpa [Nat.testBit_and] using this
    · intro h
      apply Nat.eq_of_testBit_eq
      intro j
      rw [Nat.testBit_and, Nat.testBit_two_pow]
      by_cases hj : k = j
      · subst hj; simp [h]
      · simp [hj]
  cases h : x.testBit k
  · rw [e.2 h]; rfl
  · have h0 : x &&& 2 ^ k ≠ 0 := fun z => by rw [e.1 z] at h; cases h
    have h2 : ((x &&& 2 ^ k : Nat) : Int) ≠ 0 := by omega
    simpa using h2
theorem other_bit (ws vs : List Nat) (h : vs.length = ws.length) (hw : Wordy ws) (hv : ∀ k, k < ws.length → vs.getD k 0 = 18446744073709551615 - ws.getD k 0) (v : Nat) : bitOf vs v = (decide (v < 64 * ws.length) && !bitOf ws v) := by
  unfold bitOf
  by_cases hl : v / 64 < ws.length
  · rw [hv _ hl, not_bit _ _ (hw.at _)]
    have h1 : v % 64 < 64 := by omega
    have h2 : v < 64 * ws.length := by omega
    simp [h1, h2]
  · have h2 : ¬ v < 64 * ws.length := by omega
    have h3 : vs.getD (v / 64) 0 = 0 := by
      rw [List.getD_eq_getElem?_getD, List.getElem?_eq_none (by omega)]; rfl
    rw [h3]
    simp [h2]
theorem mask_bit {vs : List Nat} {n : Nat} (hn : n % 64 ≠ 0) (hl : vs.length = (n + 63) / 64) (v : Nat) :
    bitOf (vs.set (vs.length - 1) (vs.getD (vs.length - 1) 0 &&& (2 ^ (n % 64) - 1))) v = (decide (v < n) && bitOf vs v) := by
  rw [bit_set (by omega)]
  by_cases h : v / 64 = vs.length - 1
  · rw [if_pos h, Nat.testBit_and, Nat.testBit_two_pow_sub_one]
    unfold bitOf
    rw [h, Bool.and_comm]
    congr 1
    exact decide_eq_decide.2 ⟨fun e => by omega, fun e => by omega⟩
  · rw [if_neg h]
    by_cases e : v < n
    · simp [e]
    · have : bitOf vs v = false := by
        unfold bitOf
        rw [List.getD_eq_getElem?_getD, List.getElem?_eq_none (by omega)]
        simp
      simp [this]
end Go.Proofs.YtceejjgmepaonaaGreatDoor.VsetPure
/- Groups of vertices as the bits of a word, plainly: their vertices, all others, the walk from one side to the next, and what a side weighs more behind a step. No program in sight. -/
namespace Go.Proofs.YtceejjgmepaonaaGreatDoor.BgPure
open Go Go.RowKit EdPure NtPure CutPure SdPure BrPure BrGray VsetPure
/-- The vertices of a group, rising. -/
def grpN (g : Nat) : List Nat := listP g.testBit 32
def grpL (g : Nat) : List Int := (grpN g).map fun v : Nat => (v : Int)
theorem grpN_len (g : Nat) : (grpN g).length ≤ 32 := listP_len _ _
theorem grpL_len (g : Nat) : (grpL g).length ≤ 32 := by unfold grpL; rw [List.length_map]; exact grpN_len g
theorem bitS_map (m : Nat) : ∀ k, bitS m k = (listP m.testBit k).map fun j : Nat => ((j + 1 : Nat) : Int)
  | 0 => rfl
  | k + 1 => by
    rw [listP_succ, List.map_append]
    unfold bitS
    rw [bitS_map m k]
    cases m.testBit k <;> rfl
theorem dbl_bit (m j : Nat) : (2 * m).testBit (j + 1) = m.testBit j := by
  rw [Nat.testBit_succ]
  congr 1
  omega
/-- The side of a number is the group of twice the number. -/
theorem grp_bit {m k : Nat} (hk : k ≤ 31) (hm : m < 2 ^ k) : grpL (2 * m) = bitS m k := by
  unfold grpL grpN
  rw [bitS_map, show (32 : Nat) = 1 + 31 by rfl, listP_add]
  have h0 : listP (2 * m).testBit 1 = [] := listP_none fun v hv => by
    obtain rfl : v = 0 := by omega
    rw [Nat.testBit_zero]
    exact decide_eq_false (by omega)
  rw [h0, List.nil_append, List.map_map]
  have h1 : listP (fun j => (2 * m).testBit (1 + j)) 31 = listP m.testBit k := by
    rw [← listP_past (p := m.testBit) (n := k) (N := 31) hk (fun v hv => Nat.testBit_lt_two_pow (Nat.lt_of_lt_of_le hm (Nat.pow_le_pow_right (by decide) hv)))]
    refine listP_congr fun v _ => ?_
    rw [Nat.add_comm, dbl_bit]
  rw [h1]
  refine List.map_congr_left fun v _ => ?_
  show ((1 + v : Nat) : Int) = _
  rw [Nat.add_comm]
theorem grp_in {g : Nat} {v : Nat} (hv : v < 32) : inS (grpL g) (v : Int) = g.testBit v := by
  have key : inS (grpL g) (v : Int) = true ↔ g.testBit v = true := by
    rw [inS_iff]
    unfold grpL grpN
    rw [List.mem_map]
    constructor
    · rintro ⟨x, hx, e⟩
      obtain rfl : x = v := by omega
      exact (listP_mem.1 hx).2
    · intro h
      exact ⟨v, listP_mem.2 ⟨hv, h⟩, rfl⟩
  cases h : g.testBit v with
  | true => exact key.2 h
  | false =>
    cases h2 : inS (grpL g) (v : Int) with
    | false => rfl
    | true => rw [key.1 h2] at h; cases h
theorem grpL_rises (g : Nat) : (grpL g).Pairwise (· < ·) := by
  unfold grpL grpN listP
  rw [List.pairwise_map]
  refine (List.Pairwise.filter _ ?_)
  exact (List.pairwise_lt_range (n := 32)).imp fun h => by omega
/-- All others of N vertices. -/
def othG (N g : Nat) : Nat := 2 ^ N - 1 - g
theorem oth_bit {N g : Nat} (hg : g < 2 ^ N) (j : Nat) : (othG N g).testBit j = (decide (j < N) && !g.testBit j) := by
  unfold othG
  rw [show 2 ^ N - 1 - g = 2 ^ N - (g + 1) by omega]
  exact Nat.testBit_two_pow_sub_succ hg j
theorem oth_lt {N g : Nat} : othG N g < 2 ^ N := by have := Nat.two_pow_pos N; unfold othG; omega
theorem and_oth {N g : Nat} (hN : N ≤ 31) (hg : g < 2 ^ N) : (2 ^ N - 1) &&& (4294967295 - g) = othG N g := by
  have h31 : 2 ^ N ≤ 2 ^ 31 := Nat.pow_le_pow_right (by decide) hN
  apply Nat.eq_of_testBit_eq
  intro j
  rw [oth_bit hg, Nat.testBit_and, Nat.testBit_two_pow_sub_one, show 4294967295 - g = 2 ^ 32 - (g + 1) by omega, Nat.testBit_two_pow_sub_succ (by omega)]
  by_cases h : j < N
  · simp [h]; omega
  · simp [h]
/-- A group's vertices, one by one: without its lowest. -/
def lowG (y : Nat) : Nat := Lib.ctz 32 y
theorem low_spec {y : Nat} (h0 : y ≠ 0) (h : y < 4294967296) : ∃ m, y = 2 ^ lowG y * (2 * m + 1) ∧ lowG y < 32 := by
  obtain ⟨m, hm, hk⟩ := Lib.ctzFrom_spec 32 y (by omega) (by simpa using h)
  have e : lowG y = Lib.ctzFrom 32 y := by simp [lowG, Lib.ctz, h0]
  rw [e]
  exact ⟨m, hm, hk⟩
theorem grp_zero : grpN 0 = [] := listP_none (fun v _ => by simp)
theorem grp_step {y : Nat} (h0 : y ≠ 0) (h : y < 4294967296) : grpN y = lowG y :: grpN (y &&& (y - 1)) := by
  obtain ⟨m, hm, ht⟩ := low_spec h0 h
  refine listP_head (t := lowG y) ?_ ?_ ?_ 32 ht
  · have := (low_bits (lowG y) m (lowG y)).1
    rw [← hm] at this
    rw [this]
    simp
  · intro j hj
    have := (low_bits (lowG y) m j).1
    rw [← hm] at this
    rw [this]
    have : decide (lowG y ≤ j) = false := decide_eq_false (by omega)
    rw [this]; rfl
  · intro j
    obtain ⟨h1, h2⟩ := low_bits (lowG y) m j
    rw [← hm] at h1 h2
    rw [Nat.testBit_and, h1, h2]
    by_cases a : j < lowG y
    · simp [a]; omega
    · by_cases b : j = lowG y
      · simp [b]
      · have c : lowG y < j := by omega
        have d : lowG y ≤ j := by omega
        simp [a, b, c, d]
theorem low_less (y : Nat) (h0 : y ≠ 0) : y &&& (y - 1) < y := Nat.lt_of_le_of_lt Nat.and_le_right (by omega)
/-! ### The walk -/
/-- The group behind i steps. -/
def gaG (i : Nat) : Nat := 2 * gray i
theorem ga_zero : gaG 0 = 0 := rfl
theorem ga_lt {i k : Nat} (h : i < 2 ^ k) : gaG i < 2 ^ (k + 1) := by have := gray_lt h; unfold gaG; rw [Nat.pow_succ]; omega
theorem low_gray {i k : Nat} (hi : i + 1 < 2 ^ k) (hk : k ≤ 31) : lowG (i + 1) < k := by
  have h31 : 2 ^ k ≤ 2 ^ 31 := Nat.pow_le_pow_right (by decide) hk
  obtain ⟨m, hm, ht⟩ := low_spec (y := i + 1) (by omega) (by omega)
  apply Classical.byContradiction
  intro hc
  have h1 : 2 ^ k ≤ 2 ^ lowG (i + 1) := Nat.pow_le_pow_right (by decide) (by omega)
  have h2 : 2 ^ lowG (i + 1) * 1 ≤ 2 ^ lowG (i + 1) * (2 * m + 1) := Nat.mul_le_mul_left _ (by omega)
  omega
theorem ga_step {i k : Nat} (hi : i + 1 < 2 ^ k) (hk : k ≤ 31) : gaG (i + 1) = gaG i ^^^ 2 ^ (lowG (i + 1) + 1) := by
  have h31 : 2 ^ k ≤ 2 ^ 31 := Nat.pow_le_pow_right (by decide) hk
  obtain ⟨m, hm, ht⟩ := low_spec (y := i + 1) (by omega) (by omega)
  unfold gaG
  rw [gray_step hm]
  apply Nat.eq_of_testBit_eq
  intro j
  cases j with
  | zero =>
    rw [Nat.testBit_xor, Nat.testBit_zero, Nat.testBit_zero, Nat.testBit_zero]
    have e : 2 ^ (lowG (i + 1) + 1) % 2 = 0 := by rw [Nat.pow_succ]; omega
    rw [show 2 * (gray i ^^^ 2 ^ lowG (i + 1)) % 2 = 0 by omega, show 2 * gray i % 2 = 0 by omega, e]
    rfl
  | succ j =>
    rw [Nat.testBit_xor, dbl_bit, dbl_bit, Nat.testBit_xor, Nat.testBit_two_pow, Nat.testBit_two_pow]
    congr 1
    exact decide_eq_decide.2 (by omega)
/-- What the side behind i steps weighs. -/
def wG (M : List Ed) (i : Nat) : Int := cutW M (inS (grpL (gaG i)))
/-- What all of a row weighs, and what those in a group do. -/
def rowS (f : Int → Int) (l : List Int) : Int := (l.map f).sum
theorem rowS_grp (f : Int → Int) (g : Nat) : ∀ N, N ≤ 32 → ((listP g.testBit N).map fun v : Nat => f (v : Int)).sum = sumN (fun u => if inS (grpL g) u = true then f u else 0) N
  | 0, _ => rfl
  | N + 1, h => by
    rw [listP_succ, List.map_append, List.sum_append, rowS_grp f g N (by omega)]
    show _ = sumN _ N + (if inS (grpL g) (N : Int) = true then f N else 0)
    rw [grp_in (by omega)]
    cases g.testBit N <;> simp
theorem row_grp (f : Int → Int) {g N : Nat} (hN : N ≤ 32) (hg : g < 2 ^ N) : rowS f (grpL g) = sumN (fun u => if inS (grpL g) u = true then f u else 0) N := by
  rw [← rowS_grp f g N hN]
  unfold rowS grpL grpN
  rw [List.map_map, listP_past (p := g.testBit) (n := N) (N := 32) hN (fun v hv => Nat.testBit_lt_two_pow (Nat.lt_of_lt_of_le hg (Nat.pow_le_pow_right (by decide) hv)))]
  rfl
theorem sumN_sub2 (f h : Int → Int) : ∀ n, sumN (fun u => f u - 2 * h u) n = sumN f n - 2 * sumN h n
  | 0 => rfl
  | n + 1 => by have := sumN_sub2 f h n; unfold sumN; omega
/-- What a side weighs more once v changes over: what v weighs to all, less twice what it weighs to those on the other side. -/
theorem more_sum {n : Nat} {M : List Ed} (h : GoodN n M) (S : Int → Bool) {v : Int} :
    moreW M S v = sumN (fun u => weiE M v u) n - 2 * sumN (fun u => if S u = S v then 0 else weiE M v u) n := by
  rw [← sumN_sub2]
  obtain ⟨h1, h2, -⟩ := h
  have e1 : sumN (fun u => weiE M v u - 2 * (if S u = S v then 0 else weiE M v u)) n = sumN (fun u => betS M v u - 2 * (if S u = S v then 0 else betS M v u)) n := sumN_congr fun k _ => by rw [wei_sum h1]
  rw [e1]
  have h3 := h1.2
  clear h1 e1
  induction M with
  | nil =>
    have e0 : sumN (fun u => betS [] v u - 2 * (if S u = S v then 0 else betS [] v u)) n = sumN (fun _ => 0) n := sumN_congr fun k _ => by
      rw [show betS [] v k = 0 from rfl]
      split <;> rfl
    rw [e0, sumN_zero]
    rfl
  | cons e r ih =>
    have hr := ih (fun y hy => h2 y (by simp [hy])) (fun y hy => h3 y (by simp [hy]))
    have he := h2 e (by simp)
    have hl := (h3 e (by simp)).1
    have e2 : sumN (fun u => betS (e :: r) v u - 2 * (if S u = S v then 0 else betS (e :: r) v u)) n = sumN (fun u => (betE v u e - 2 * (if S u = S v then 0 else betE v u e)) + (betS r v u - 2 * (if S u = S v then 0 else betS r v u))) n := sumN_congr fun k _ => by
      rw [bet_cons]; split <;> omega
    have e3 : moreW (e :: r) S v = moreE S v e + moreW r S v := by unfold moreW; simp
    rw [e2, sumN_add, ← hr, e3]
    congr 1
    have e4 : sumN (fun u => betE v u e - 2 * (if S u = S v then 0 else betE v u e)) n = sumN (fun u => if u = othE v e then moreE S v e else 0) n := by
      refine sumN_congr fun k _ => ?_
      unfold betE btwB othE moreE crossB
      simp only [decide_eq_true_eq]
      by_cases a : e.1 = v
      · rw [if_pos a, if_pos (Or.inl a)]
        by_cases b : (k : Int) = e.2.1
        · rw [if_pos (by omega), if_pos b, b, a]
          cases S e.2.1 <;> cases S v <;> simp <;> omega
        · rw [if_neg (by omega), if_neg b]
          split <;> omega
      · rw [if_neg a]
        by_cases c : e.2.1 = v
        · rw [if_pos (Or.inr c)]
          by_cases b : (k : Int) = e.1
          · rw [if_pos (by omega), if_pos b, b, c]
            cases S e.1 <;> cases S v <;> simp <;> omega
          · rw [if_neg (by omega), if_neg b]
            split <;> omega
        · rw [if_neg (fun h : e.1 = v ∨ e.2.1 = v => h.elim a c)]
          have : (if (v = e.1 ∧ (k : Int) = e.2.1) ∨ (v = e.2.1 ∧ (k : Int) = e.1) then e.2.2 else (0 : Int)) = 0 := if_neg (by omega)
          split <;> split <;> omega
    rw [e4, sumN_one]
    by_cases a : e.1 = v ∨ e.2.1 = v
    · rw [if_pos]
      unfold othE
      split <;> omega
    · have : moreE S v e = 0 := if_neg a
      rw [this]; split <;> rfl
/-- The group whose edges are taken off: those on the other side of v. -/
def facG (N g v : Nat) : Nat := if g.testBit v = true then othG N g else g
theorem fac_lt {N g v : Nat} (hg : g < 2 ^ N) : facG N g v < 2 ^ N := by unfold facG; split; exact oth_lt; exact hg
theorem fac_in {N g v u : Nat} (hg : g < 2 ^ N) (hN : N ≤ 31) (hv : v < N) (hu : u < N) : inS (grpL (facG N g v)) (u : Int) = (inS (grpL g) (u : Int) != inS (grpL g) (v : Int)) := by
  rw [grp_in (by omega), grp_in (by omega), grp_in (by omega)]
  unfold facG
  cases hb : g.testBit v with
  | true =>
    rw [if_pos rfl, oth_bit hg, decide_eq_true hu]
    cases g.testBit u <;> rfl
  | false =>
    rw [if_neg (by decide)]
    cases g.testBit u <;> rfl
/-- What is told of a step: the row's sum, less twice what is taken off. -/
def moG (M : List Ed) (N g v : Nat) : Int := sumN (fun u => weiE M v u) N - 2 * rowS (fun u => weiE M v u) (grpL (facG N g v))
theorem mo_more {N : Nat} {M : List Ed} (h : GoodN N M) {g v : Nat} (hN : N ≤ 31) (hg : g < 2 ^ N) (hv : v < N) : moG M N g v = moreW M (inS (grpL g)) (v : Int) := by
  rw [more_sum h]
  unfold moG
  rw [row_grp _ (by omega) (fac_lt hg)]
  have : sumN (fun u => if inS (grpL (facG N g v)) u = true then weiE M v u else 0) N = sumN (fun u => if inS (grpL g) u = inS (grpL g) (v : Int) then 0 else weiE M v u) N := sumN_congr fun k hk => by
    rw [fac_in hg hN hv hk]
    cases inS (grpL g) (k : Int) <;> cases inS (grpL g) (v : Int) <;> simp
  rw [this]
theorem wG_step {N : Nat} {M : List Ed} (h : GoodN N M) {i : Nat} (hN : N ≤ 31) (hi : i + 1 < 2 ^ (N - 1)) : wG M (i + 1) = wG M i + moG M N (gaG i) (lowG (i + 1) + 1) := by
  have ht := low_gray hi (by omega)
  have hg : gaG i < 2 ^ N := by have := ga_lt (i := i) (k := N - 1) (by omega); rwa [show N - 1 + 1 = N by omega] at this
  rw [mo_more h hN hg (by omega)]
  unfold wG
  have hl := gray_lt (i := i) (k := N - 1) (by omega)
  have hl2 := gray_lt (i := i + 1) (k := N - 1) hi
  have e2 : gray (i + 1) = gray i ^^^ 2 ^ lowG (i + 1) := by
    have h31 : 2 ^ (N - 1) ≤ 2 ^ 31 := Nat.pow_le_pow_right (by decide) (by omega)
    obtain ⟨m, hm, -⟩ := low_spec (y := i + 1) (by omega) (by omega)
    exact gray_step hm
  have e1 : inS (grpL (gaG (i + 1))) = flipV (inS (grpL (gaG i))) ((lowG (i + 1) + 1 : Nat) : Int) := by
    unfold gaG
    rw [grp_bit (by omega) hl2, grp_bit (by omega) hl, e2]
    funext u
    exact bit_flip ht u
  rw [e1, cut_flip M (fun e he => by have := (h.1.2 e he).1; omega)]
theorem wG_zero (M : List Ed) : wG M 0 = 0 := by
  unfold wG
  rw [ga_zero]
  have e : inS (grpL 0) = fun _ => false := by
    funext u
    unfold grpL
    rw [grp_zero]
    rfl
  rw [e]
  unfold cutW
  induction M with
  | nil => rfl
  | cons e r ih => simp only [List.map_cons, List.sum_cons, ih]; unfold crE crossB; simp
end Go.Proofs.YtceejjgmepaonaaGreatDoor.BgPure
/- The library's contract of bits.TrailingZeros32, laid at this program. -/
namespace Go.Proofs
open Go.Shelf
def Tryz.lays28_ren : Go.Shelf.Ren := ⟨fun | 28 => 52 | n => n, fun | 27 => 70 | 3 => 3 | 4 => 4 | 25 => 103 | 53 => 124 | 0 => 0 | 5 => 5 | n => n, fun | 0 => 0 | n => n⟩
theorem Tryz.lays28 : Go.Proofs.Lays7.n28 Tryz.prog Tryz.lays28_ren := {
  mixed := by kernel_rfl
  f28 := Tryz.func52.trans (congrArg some (by kernel_rfl))
  t0 := Tryz.underlying0
  a0 := Tryz.isAgg0
  z0 := Tryz.sizeOf0
  v0 := Tryz.zeroValue0
  i0 := by kernel_rfl
  t3 := Tryz.underlying3
  a3 := Tryz.isAgg3
  z3 := Tryz.sizeOf3
  v3 := Tryz.zeroValue3
  i3 := by kernel_rfl
  t4 := Tryz.underlying4
  a4 := Tryz.isAgg4
  z4 := Tryz.sizeOf4
  v4 := Tryz.zeroValue4
  i4 := by kernel_rfl
  t5 := Tryz.underlying5
  a5 := Tryz.isAgg5
  z5 := Tryz.sizeOf5
  v5 := Tryz.zeroValue5
  i5 := by kernel_rfl
  t25 := Tryz.underlying103
  a25 := Tryz.isAgg103
  z25 := Tryz.sizeOf103
  v25 := Tryz.zeroValue103
  i25 := by kernel_rfl
  t27 := Tryz.underlying70
  a27 := Tryz.isAgg70
  z27 := Tryz.sizeOf70
  v27 := Tryz.zeroValue70
  i27 := by kernel_rfl
  t53 := Tryz.underlying124
  a53 := Tryz.isAgg124
  z53 := Tryz.sizeOf124
  v53 := Tryz.zeroValue124
  i53 := by kernel_rfl
  g0 := by kernel_rfl }
theorem Tryz.bits_Tz32 (x : Nat) (hx : x < 4294967296) (w : World) (hT : x ≠ 0 → TabAt 0 Lib.deBruijn32tab w) :
    Calls Tryz.prog 52 #[.int .u32 x] w fun e w' => e = .returned (.int .i64 (Lib.ctz 32 x)) ∧ w' = w := Any7.bits_TrailingZeros32 Tryz.lays28 x hx w hT
end Go.Proofs
