/- Texts that the laws of this seat stand on, part 38. -/
import Derived.WalkKit
import Derived.Lib.ItoaLen
/- The first of a list of which a function tells an error: its error, its place. No program in sight. -/
namespace Go.Proofs.YtmohfmhkhldhnaaGreat.First
/-- The first place in l of which E tells an error, or l's length. -/
def firstBad {α : Type} (E : α → Int) : List α → Nat
  | [] => 0
  | x :: t => if E x = 0 then firstBad E t + 1 else 0
def errAt {α : Type} (E : α → Int) (l : List α) : Int := match l[firstBad E l]? with | some x => E x | none => 0
def plcAt {α : Type} (E : α → Int) (l : List α) : Int := if firstBad E l < l.length then (firstBad E l : Int) else 0
theorem first_le {α : Type} (E : α → Int) (l : List α) : firstBad E l ≤ l.length := by
  induction l with
  | nil => simp [firstBad]
  | cons x t ih => unfold firstBad; split <;> simp <;> omega
theorem first_good {α : Type} (E : α → Int) (l : List α) : ∀ j (h : j < l.length), j < firstBad E l → E l[j] = 0 := by
  induction l with
  | nil => intro j h; simp at h
  | cons x t ih =>
    intro j h hj
    unfold firstBad at hj
    by_cases hx : E x = 0
    · rw [if_pos hx] at hj
      cases j with
      | zero => exact hx
      | succ j => exact ih j (by simpa using h) (by omega)
    · rw [if_neg hx] at hj; omega
theorem first_bad {α : Type} (E : α → Int) (l : List α) : ∀ h : firstBad E l < l.length, E l[firstBad E l] ≠ 0 := by
  induction l with
  | nil => intro h; simp [firstBad] at h
  | cons x t ih =>
    intro h
    by_cases hx : E x = 0
    · have e : firstBad E (x :: t) = firstBad E t + 1 := by rw [firstBad, if_pos hx]
      have h' : firstBad E t < t.length := by rw [e] at h; simpa using h
      have := ih h'
      simp only [e, List.getElem_cons_succ]
      exact this
    · have e : firstBad E (x :: t) = 0 := by rw [firstBad, if_neg hx]
      simp only [e, List.getElem_cons_zero]
      exact hx
theorem err_bad {α : Type} (E : α → Int) (l : List α) (k : Nat) (h : k < l.length) (hk : firstBad E l = k) : errAt E l = E l[k] ∧ plcAt E l = (k : Int) := by
  subst hk
  unfold errAt plcAt
  rw [List.getElem?_eq_getElem h, if_pos h]
  exact ⟨rfl, rfl⟩
theorem err_good {α : Type} (E : α → Int) (l : List α) (hk : firstBad E l = l.length) : errAt E l = 0 ∧ plcAt E l = 0 := by
  unfold errAt plcAt
  rw [hk, List.getElem?_eq_none (Nat.le_refl _), if_neg (by omega)]
  exact ⟨rfl, rfl⟩
/-- No error just if none is told. -/
theorem err_iff {α : Type} (E : α → Int) (l : List α) : errAt E l = 0 ↔ firstBad E l = l.length := by
  constructor
  · intro h
    refine Nat.le_antisymm (first_le E l) (Nat.le_of_not_lt fun hc => ?_)
    have := first_bad E l hc
    rw [(err_bad E l _ hc rfl).1] at h
    exact this h
  · intro h; exact (err_good E l h).1
theorem first_all {α : Type} (E : α → Int) (l : List α) (h : ∀ x ∈ l, E x = 0) : firstBad E l = l.length := by
  induction l with
  | nil => rfl
  | cons x t ih =>
    rw [firstBad, if_pos (h x (by simp)), ih (fun y hy => h y (by simp [hy]))]; rfl
theorem all_first {α : Type} (E : α → Int) (l : List α) (h : firstBad E l = l.length) : ∀ x ∈ l, E x = 0 := by
  intro x hx
  obtain ⟨j, hj, rfl⟩ := List.getElem_of_mem hx
  exact first_good E l j hj (by omega)
/-- Behind good ones the first bad one is the first bad one of the rest. -/
theorem first_append {α : Type} (E : α → Int) (d r : List α) (h : ∀ x ∈ d, E x = 0) : firstBad E (d ++ r) = d.length + firstBad E r := by
  induction d with
  | nil => simp
  | cons x t ih =>
    rw [List.cons_append, firstBad, if_pos (h x (by simp)), ih (fun y hy => h y (by simp [hy])), List.length_cons]
    omega
/-- .. so a bad one behind them is it. -/
theorem first_at {α : Type} (E : α → Int) (d r : List α) (x : α) (h : ∀ y ∈ d, E y = 0) (hx : E x ≠ 0) : errAt E (d ++ x :: r) = E x ∧ plcAt E (d ++ x :: r) = (d.length : Int) := by
  have hf : firstBad E (d ++ x :: r) = d.length := by rw [first_append E d _ h, firstBad, if_neg hx]; rfl
  obtain ⟨h1, h2⟩ := err_bad E (d ++ x :: r) d.length (by simp) hf
  exact ⟨by rw [h1]; simp, h2⟩
theorem none_at {α : Type} (E : α → Int) (d : List α) (h : ∀ y ∈ d, E y = 0) : errAt E d = 0 ∧ plcAt E d = 0 := err_good E d (first_all E d h)
end Go.Proofs.YtmohfmhkhldhnaaGreat.First
/- Plain facts on decimal digits: which texts are a number's, what number they are, and back; texts of many with blanks between. No program in sight. -/
namespace Go.Proofs.YtmohfmhkhldhnaaGreat.DecPure
open Go.Lib

/-- A digit, and what it stands for. -/
def dig (c : UInt8) : Bool := decide (48 ≤ c.toNat) && decide (c.toNat ≤ 57)
def dv (c : UInt8) : Nat := c.toNat - 48
theorem dig_iff (c : UInt8) : dig c = true ↔ 48 ≤ c.toNat ∧ c.toNat ≤ 57 := by unfold dig; simp
theorem dig_not (c : UInt8) : dig c = false ↔ c.toNat < 48 ∨ 57 < c.toNat := by
  rw [Bool.eq_false_iff, Ne, dig_iff]; omega
theorem dig_make (n : Nat) (h : n < 10) : dig (UInt8.ofNat (48 + n)) = true ∧ dv (UInt8.ofNat (48 + n)) = n := by
  have : (UInt8.ofNat (48 + n)).toNat = 48 + n := by simp; omega
  rw [dig_iff]; unfold dv; omega
theorem make_dig (c : UInt8) (h : dig c = true) : UInt8.ofNat (48 + dv c) = c ∧ dv c < 10 := by
  rw [dig_iff] at h
  unfold dv
  refine ⟨?_, by omega⟩
  apply UInt8.toNat.inj
  simp
  omega
/-- The number that digits are. -/
def numV (l : List UInt8) : Nat := l.foldl (fun a c => 10 * a + dv c) 0
theorem numV_snoc (l : List UInt8) (c : UInt8) : numV (l ++ [c]) = 10 * numV l + dv c := by unfold numV; rw [List.foldl_append]; rfl
theorem numV_nil : numV [] = 0 := rfl
/-- Digits without a 0 ahead of others, at least one. -/
def plainB (l : List UInt8) : Bool := l.all dig && (l == [48] || (l != [] && l.head? != some 48))
theorem plain_iff (l : List UInt8) : plainB l = true ↔ (∀ c ∈ l, dig c = true) ∧ (l = [48] ∨ (l ≠ [] ∧ l.head? ≠ some 48)) := by
  unfold plainB; simp
theorem plain_one (c : UInt8) (h : dig c = true) : plainB [c] = true := by
  rw [plain_iff]
  refine ⟨by simpa using h, ?_⟩
  by_cases hc : c = 48
  · exact Or.inl (by rw [hc])
  · exact Or.inr ⟨by simp, by simpa using hc⟩
/-- Behind digits that are no lone 0 any digit may stand. -/
theorem plain_snoc (l : List UInt8) (c : UInt8) (h : l ≠ []) : plainB (l ++ [c]) = true ↔ plainB l = true ∧ l ≠ [48] ∧ dig c = true := by
  rw [plain_iff, plain_iff]
  cases l with
  | nil => exact absurd rfl h
  | cons x t =>
    constructor
    · rintro ⟨h1, h2⟩
      have hx : x ≠ 48 := by
        rcases h2 with h2 | ⟨-, h2⟩
        · have := congrArg List.length h2; simp at this
        · simpa using h2
      refine ⟨⟨fun a ha => h1 a (by simp at ha ⊢; rcases ha with ha | ha <;> simp [ha]), Or.inr ⟨by simp, by simpa using hx⟩⟩, ?_, h1 c (by simp)⟩
      intro e
      exact hx (List.cons.inj e).1
    · rintro ⟨⟨h1, h2⟩, h3, h4⟩
      have hx : x ≠ 48 := by
        rcases h2 with h2 | ⟨-, h2⟩
        · exact absurd h2 h3
        · simpa using h2
      refine ⟨fun a ha => ?_, Or.inr ⟨by simp, by simpa using hx⟩⟩
      rw [List.mem_append] at ha
      rcases ha with ha | ha
      · exact h1 a ha
      · simp at ha; rw [ha]; exact h4
theorem snoc_ind {P : List UInt8 → Prop} (h0 : P []) (hs : ∀ l c, P l → P (l ++ [c])) (l : List UInt8) : P l := by
  have : ∀ n (l : List UInt8), l.length = n → P l := by
    intro n
    induction n with
    | zero => intro l hl; rw [List.length_eq_zero_iff.1 hl]; exact h0
    | succ n ih =>
      intro l hl
      have hne : l ≠ [] := by intro e; rw [e] at hl; simp at hl
      rw [← List.dropLast_concat_getLast hne]
      exact hs _ _ (ih _ (by rw [List.length_dropLast]; omega))
  exact this l.length l rfl
theorem plain_ne {l : List UInt8} (h : plainB l = true) : l ≠ [] := by
  rintro rfl; simp [plainB] at h
theorem plain_dig {l : List UInt8} (h : plainB l = true) : ∀ c ∈ l, dig c = true := ((plain_iff l).1 h).1
/-- Digits that are no lone 0 are a number above 0. -/
theorem num_pos (l : List UInt8) (h : plainB l = true) (h0 : l ≠ [48]) : 1 ≤ numV l := by
  induction l using snoc_ind with
  | h0 => exact absurd rfl (plain_ne h)
  | hs l c ih =>
    rw [numV_snoc]
    by_cases hl : l = []
    · subst hl
      have hc := plain_dig h c (by simp)
      have : dv c ≠ 0 := by
        intro e
        have := (make_dig c hc).1
        rw [e] at this
        exact h0 (by rw [← this]; rfl)
      omega
    · obtain ⟨h1, h2, -⟩ := (plain_snoc l c hl).1 h
      have := ih h1 h2
      omega
theorem dec_small {u : Nat} (h : u < 10) : decDigits u = [UInt8.ofNat (48 + u)] := by rw [decDigits, dif_pos h]
theorem dec_big {u : Nat} (h : ¬ u < 10) : decDigits u = decDigits (u / 10) ++ [UInt8.ofNat (48 + u % 10)] := by rw [decDigits, dif_neg h]
/-- Digits are the digits of the number that they are. -/
theorem dec_num (l : List UInt8) (h : plainB l = true) : decDigits (numV l) = l := by
  induction l using snoc_ind with
  | h0 => exact absurd rfl (plain_ne h)
  | hs l c ih =>
    by_cases hl : l = []
    · subst hl
      obtain ⟨h1, h2⟩ := make_dig c (plain_dig h c (by simp))
      rw [List.nil_append, show numV [c] = dv c by simp [numV], dec_small h2, h1]
    · obtain ⟨h1, h2, h3⟩ := (plain_snoc l c hl).1 h
      obtain ⟨h4, h5⟩ := make_dig c h3
      have := num_pos l h1 h2
      rw [numV_snoc, dec_big (by omega), show (10 * numV l + dv c) / 10 = numV l by omega, show (10 * numV l + dv c) % 10 = dv c by omega, ih h1, h4]
/-- A number's digits are plain, and are it. -/
theorem num_dec (u : Nat) : plainB (decDigits u) = true ∧ numV (decDigits u) = u ∧ (decDigits u = [48] → u = 0) := by
  induction u using Nat.strongRecOn with
  | _ u ih =>
    by_cases h : u < 10
    · obtain ⟨h1, h2⟩ := dig_make u h
      rw [dec_small h]
      refine ⟨plain_one _ h1, by simpa [numV] using h2, fun e => ?_⟩
      have := (List.cons.inj e).1
      rw [this] at h2
      rw [← h2]; rfl
    · obtain ⟨h1, h2, h3⟩ := ih (u / 10) (by omega)
      obtain ⟨h4, h5⟩ := dig_make (u % 10) (by omega)
      rw [dec_big h]
      refine ⟨(plain_snoc _ _ (plain_ne h1)).2 ⟨h1, fun e => ?_, h4⟩, by rw [numV_snoc, h2, h5]; omega, fun e => ?_⟩
      · have := h3 e; omega
      · have e2 := congrArg List.length e
        have : (decDigits (u / 10)).length ≠ 0 := fun e => plain_ne h1 (List.length_eq_zero_iff.1 e)
        simp at e2
        exact absurd e2 (by simpa using this)
theorem nDigits_le (k u : Nat) (h : u < 10 ^ (k + 1)) : nDigits u ≤ k + 1 := by
  induction k generalizing u with
  | zero => rw [nDigits_small (by simpa using h)]; omega
  | succ k ih =>
    by_cases h10 : u < 10
    · rw [nDigits_small h10]; omega
    · rw [nDigits_big h10]
      have := ih (u / 10) (by rw [Nat.pow_succ] at h; omega)
      omega
/-- A prefix of digits is no more than all of them. -/
theorem num_le_snoc (l : List UInt8) (c : UInt8) : 10 * numV l ≤ numV (l ++ [c]) := by rw [numV_snoc]; omega
theorem num_le_append (l r : List UInt8) : numV l ≤ numV (l ++ r) := by
  induction r using snoc_ind with
  | h0 => simp
  | hs r c ih => rw [← List.append_assoc]; have := num_le_snoc (l ++ r) c; omega
/-! ### A number below 0 too -/
def negB (s : List UInt8) : Bool := s.head? == some 45
def tailD (s : List UInt8) : List UInt8 := if negB s then s.tail else s
def formB (s : List UInt8) : Bool := plainB (tailD s) && !(negB s && tailD s == [48])
def valI (s : List UInt8) : Int := if negB s then -(numV (tailD s) : Int) else (numV (tailD s) : Int)
theorem neg_cons (s : List UInt8) : negB (45 :: s) = true ∧ tailD (45 :: s) = s := by
  have h : negB (45 :: s) = true := rfl
  exact ⟨h, by unfold tailD; rw [if_pos h]; rfl⟩
theorem neg_true {s : List UInt8} (h : negB s = true) : s = 45 :: tailD s := by
  unfold tailD
  rw [if_pos h]
  cases s with
  | nil => simp [negB] at h
  | cons x t => simp [negB] at h; rw [h]; rfl
theorem neg_false {s : List UInt8} (h : negB s = false) : tailD s = s := by unfold tailD; rw [if_neg (by simp [h])]
theorem neg_dig {s : List UInt8} (h : ∀ c ∈ s, dig c = true) : negB s = false := by
  cases s with
  | nil => rfl
  | cons x t =>
    have hx := h x (by simp)
    cases hn : negB (x :: t) with
    | false => rfl
    | true =>
      simp [negB] at hn
      rw [hn] at hx
      exact absurd hx (by decide)
theorem form_iff (s : List UInt8) : formB s = true ↔ plainB (tailD s) = true ∧ ¬(negB s = true ∧ tailD s = [48]) := by
  unfold formB
  cases negB s <;> simp
/-- A number's text. -/
theorem itoa_form (n : Int) : formB (itoa n) = true ∧ valI (itoa n) = n := by
  unfold itoa
  by_cases h : n < 0
  · rw [if_pos h]
    obtain ⟨h1, h2, h3⟩ := num_dec n.natAbs
    obtain ⟨h4, h5⟩ := neg_cons (decDigits n.natAbs)
    refine ⟨(form_iff _).2 ⟨by rw [h5]; exact h1, fun ⟨_, e⟩ => ?_⟩, ?_⟩
    · rw [h5] at e; have := h3 e; omega
    · unfold valI; rw [h4, h5, h2]; simp; omega
  · rw [if_neg h]
    obtain ⟨h1, h2, h3⟩ := num_dec n.toNat
    have h4 := neg_dig (plain_dig h1)
    have h5 := neg_false h4
    refine ⟨(form_iff _).2 ⟨by rw [h5]; exact h1, fun ⟨e, _⟩ => by rw [h4] at e; cases e⟩, ?_⟩
    unfold valI; rw [h4, h5, h2]; simp; omega
/-- Digits are the text of the number that they are. -/
theorem itoa_val {s : List UInt8} (h : formB s = true) : itoa (valI s) = s := by
  obtain ⟨h1, h2⟩ := (form_iff s).1 h
  have h3 := dec_num (tailD s) h1
  cases hn : negB s with
  | true =>
    have h0 : 1 ≤ numV (tailD s) := num_pos _ h1 fun e => h2 ⟨hn, e⟩
    have hv : valI s = -(numV (tailD s) : Int) := by unfold valI; rw [if_pos hn]
    rw [hv, itoa_neg _ h0, h3]
    exact (neg_true hn).symm
  | false =>
    have hv : valI s = (numV (tailD s) : Int) := by unfold valI; rw [if_neg (by simp [hn])]
    rw [hv, itoa_nonneg, h3]
    exact neg_false hn
theorem itoa_inj {m n : Int} (h : itoa m = itoa n) : m = n := by
  have h1 := (itoa_form m).2
  rw [h, (itoa_form n).2] at h1
  exact h1.symm
/-- What is read of a text: why it is no number, or which. -/
def fitsI (n : Int) : Bool := decide (-9223372036854775808 ≤ n) && decide (n ≤ 9223372036854775807)
theorem fits_iff (n : Int) : fitsI n = true ↔ -9223372036854775808 ≤ n ∧ n ≤ 9223372036854775807 := by unfold fitsI; simp
def parseE (s : List UInt8) : Int := if formB s then (if fitsI (valI s) then 0 else 10) else 2
def parseN (s : List UInt8) : Int := if formB s && fitsI (valI s) then valI s else 0
theorem parse_form {s : List UInt8} (h : formB s = false) : parseE s = 2 ∧ parseN s = 0 := by unfold parseE parseN; simp [h]
theorem parse_wide {s : List UInt8} (h : formB s = true) (h2 : fitsI (valI s) = false) : parseE s = 10 ∧ parseN s = 0 := by unfold parseE parseN; simp [h, h2]
theorem parse_fits {s : List UInt8} (h : formB s = true) (h2 : fitsI (valI s) = true) : parseE s = 0 ∧ parseN s = valI s := by unfold parseE parseN; simp [h, h2]
theorem parse_cases (s : List UInt8) : (formB s = false ∧ parseE s = 2 ∧ parseN s = 0) ∨ (formB s = true ∧ fitsI (valI s) = false ∧ parseE s = 10 ∧ parseN s = 0) ∨ (formB s = true ∧ fitsI (valI s) = true ∧ parseE s = 0 ∧ parseN s = valI s) := by
  cases h : formB s with
  | false => exact Or.inl ⟨rfl, parse_form h⟩
  | true =>
    cases h2 : fitsI (valI s) with
    | false => exact Or.inr (Or.inl ⟨rfl, rfl, parse_wide h h2⟩)
    | true => exact Or.inr (Or.inr ⟨rfl, rfl, parse_fits h h2⟩)
theorem parse_rng (s : List UInt8) : -9223372036854775808 ≤ parseN s ∧ parseN s ≤ 9223372036854775807 := by
  rcases parse_cases s with ⟨-, -, h⟩ | ⟨-, -, -, h⟩ | ⟨-, h1, -, h⟩
  · omega
  · omega
  · rw [h]; exact (fits_iff _).1 h1
theorem parse_itoa (n : Int) (h : -9223372036854775808 ≤ n ∧ n ≤ 9223372036854775807) : parseE (itoa n) = 0 ∧ parseN (itoa n) = n := by
  obtain ⟨h1, h2⟩ := itoa_form n
  have := parse_fits h1 (by rw [h2]; exact (fits_iff n).2 h)
  rw [h2] at this
  exact this
theorem itoa_parse {s : List UInt8} (h : parseE s = 0) : itoa (parseN s) = s := by
  rcases parse_cases s with ⟨-, h1, -⟩ | ⟨-, -, h1, -⟩ | ⟨h1, -, -, h2⟩
  · omega
  · omega
  · rw [h2]; exact itoa_val h1
/-- A number that fits has at most twenty bytes. -/
theorem itoa_len {s : List UInt8} (h : formB s = true) (h2 : fitsI (valI s) = true) : s.length ≤ 20 := by
  obtain ⟨h3, h4⟩ := (fits_iff _).1 h2
  have h5 : (decDigits (numV (tailD s))).length ≤ 19 := by
    rw [decDigits_length]
    refine nDigits_le 18 _ ?_
    unfold valI at h3 h4
    cases hn : negB s with
    | true => rw [hn, if_pos rfl] at h3; omega
    | false => rw [hn, if_neg (by simp)] at h4; omega
  rw [dec_num _ ((form_iff s).1 h).1] at h5
  cases hn : negB s with
  | true => rw [neg_true hn, List.length_cons]; omega
  | false => rw [neg_false hn] at h5; omega
/-- What the document's own reading asks: short, and printed as it stands. -/
theorem fits_printed {s : List UInt8} (h : formB s = true) (n : Int) (hn : -9223372036854775808 ≤ n ∧ n ≤ 9223372036854775807) (hw : fitsI (valI s) = true → n = valI s) :
    (fitsI (valI s) = true ↔ s.length ≤ 20 ∧ itoa n = s) := by
  constructor
  · intro h2; exact ⟨itoa_len h h2, by rw [hw h2, itoa_val h]⟩
  · rintro ⟨-, h2⟩
    have h3 := itoa_val h
    rw [← h2] at h3
    have := itoa_inj h3
    rw [h2] at this
    rw [this]
    exact (fits_iff n).2 hn
/-- What the program reads of a text, where at most so much may be. -/
def natE (l : List UInt8) (most : Int) : Int := if parseE l = 0 then (if parseN l < 0 ∨ most < parseN l then 10 else 0) else parseE l
def natN (l : List UInt8) (most : Int) : Int := if natE l most = 0 then parseN l else 0
theorem nat_bad {l : List UInt8} (h : parseE l ≠ 0) (most : Int) : natE l most = parseE l ∧ natN l most = 0 := by
  have e : natE l most = parseE l := if_neg h
  exact ⟨e, by unfold natN; rw [e, if_neg h]⟩
theorem nat_far {l : List UInt8} {most : Int} (h : parseE l = 0) (h2 : parseN l < 0 ∨ most < parseN l) : natE l most = 10 ∧ natN l most = 0 := by
  have e : natE l most = 10 := by unfold natE; rw [if_pos h, if_pos h2]
  exact ⟨e, by unfold natN; rw [e, if_neg (by decide)]⟩
theorem nat_good {l : List UInt8} {most : Int} (h : parseE l = 0) (h2 : ¬(parseN l < 0 ∨ most < parseN l)) : natE l most = 0 ∧ natN l most = parseN l := by
  have e : natE l most = 0 := by unfold natE; rw [if_pos h, if_neg h2]
  exact ⟨e, by unfold natN; rw [if_pos e]⟩
theorem parseE_rng (l : List UInt8) : parseE l = 0 ∨ parseE l = 2 ∨ parseE l = 10 := by
  rcases parse_cases l with ⟨-, h, -⟩ | ⟨-, -, h, -⟩ | ⟨-, -, h, -⟩
  · exact Or.inr (Or.inl h)
  · exact Or.inr (Or.inr h)
  · exact Or.inl h
end Go.Proofs.YtmohfmhkhldhnaaGreat.DecPure
