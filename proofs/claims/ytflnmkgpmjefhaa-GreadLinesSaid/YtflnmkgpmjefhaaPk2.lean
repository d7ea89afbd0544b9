/- Texts that the laws of this seat stand on, part 2. -/
import Derived.Test.YtflnmkgpmjefhaaPk0
import Derived.Test.YtflnmkgpmjefhaaPk1
import Derived.Deep.QuietTactic
import Derived.BigQuiet
import Derived.IntWalk
import Derived.WalkKit
/- A contract for strings.Cut at the byte 10. -/
namespace Go.Proofs.Ytflnmkgpmjefhaa.Gr
open Go.RowKit Go.ChangeShapes WordPure
theorem byte_cases (c : UInt8) (l : List UInt8) : (Lib.indexByte l c = -1 ∧ NoC c l) ∨ ∃ i : Nat, Lib.indexByte l c = i ∧ i < l.length ∧ l = l.take i ++ c :: l.drop (i + 1) ∧ NoC c (l.take i) := by
  induction l with
  | nil => exact Or.inl ⟨rfl, fun x hc => by simp at hc⟩
  | cons b r ih =>
    by_cases hb : b = c
    · subst hb
      refine Or.inr ⟨0, ?_, by simp, rfl, fun x hc => by simp at hc⟩
      unfold Lib.indexByte; rw [if_pos (by simp)]; rfl
    · have hbe : (b == c) = false := beq_eq_false_iff_ne.2 hb
      rcases ih with ⟨h1, h2⟩ | ⟨i, h1, h2, h3, h4⟩
      · refine Or.inl ⟨?_, fun x hc => ?_⟩
        · unfold Lib.indexByte; rw [hbe, h1]; rfl
        · rw [List.mem_cons] at hc
          rcases hc with hc | hc
          · rw [hc]; exact hb
          · exact h2 x hc
      · refine Or.inr ⟨i + 1, ?_, by simp; omega, ?_, fun x hc => ?_⟩
        · unfold Lib.indexByte
          rw [hbe, h1, if_neg (by simp), if_neg (by rw [beq_iff_eq]; omega)]; omega
        · rw [List.take_succ_cons, List.drop_succ_cons, List.cons_append, ← h3]
        · rw [List.take_succ_cons, List.mem_cons] at hc
          rcases hc with hc | hc
          · rw [hc]; exact hb
          · exact h4 x hc
/-- What a text is cut into at its first blank. -/
def CutOut (s : ByteArray) (e : Ending) : Prop :=
  (NoC 10 s.data.toList ∧ e = .returned (.tuple #[.string s, .string ⟨#[]⟩, .bool false])) ∨
  (∃ P R : ByteArray, s.data.toList = P.data.toList ++ 10 :: R.data.toList ∧ NoC 10 P.data.toList ∧ e = .returned (.tuple #[.string P, .string R, .bool true]))
theorem extract_to (s : ByteArray) (i : Nat) : (s.extract 0 i).data.toList = s.data.toList.take i := by
  rw [Lib.extract_eq]
  show List.take (i - 0) (List.drop 0 s.data.toList) = _
  rw [Nat.sub_zero, List.drop_zero]
theorem extract_from (s : ByteArray) (i : Nat) : (s.extract i s.size).data.toList = s.data.toList.drop i := by
  rw [Lib.extract_eq]
  show List.take (s.size - i) (List.drop i s.data.toList) = _
  rw [List.take_of_length_le]
  rw [List.length_drop, ← Lib.size_eq]; omega
set_option maxHeartbeats 1000000 in
theorem slCut_any (s : ByteArray) (hs : s.size ≤ 1000000000) (w : World) :
    Calls Try.prog 62 #[.string s, .string ⟨#[10]⟩] w fun e w' => CutOut s e ∧ Below w.heap.size w w' := by
  have HC := Lib.hid (Try.stringslite_Index_one s 10 w)
  rcases byte_cases 10 s.data.toList with ⟨h1, h2⟩ | ⟨i, h1, h2, h3, h4⟩
  · rw [h1] at HC
    have HN := Lib.hid h2
    clear h1 h2
    go_enter Try.func62, Try.ntmps62
    go_wp2_with fail
    refine HC.out.mono ?_
    rintro e w' ⟨rfl, hw⟩
    subst hw
    clear HC
    go_wp2
    go_ret3
    exact ⟨Or.inl ⟨HN.out, rfl⟩, Below.refl _ _⟩
  · rw [h1] at HC
    have hsz := Lib.size_eq s
    have hi : i < s.size := by omega
    have HN : Hid (∀ e, e = .returned (.tuple #[.string (s.extract 0 i), .string (s.extract (i + 1) s.size), .bool true]) → CutOut s e) := Lib.hid fun e he => by
      refine Or.inr ⟨s.extract 0 i, s.extract (i + 1) s.size, ?_, ?_, he⟩
      · rw [extract_to s i, extract_from]; exact h3
      · rw [extract_to s i]; exact h4
    clear h1 h2 h3 h4 hsz
    have c1 : (0 : Int) ≤ ↑i := by omega
    have c2 : (↑i : Int) ≤ ↑s.size := by omega
    have c3 : (0 : Int) ≤ ↑i + 1 := by omega
    have c4 : (↑i + 1 : Int) ≤ ↑s.size := by omega
    go_enter Try.func62, Try.ntmps62
    go_wp2_with fail
    refine HC.out.mono ?_
    rintro e w' ⟨rfl, hw⟩
    subst hw
    clear HC
    go_wp2
    have e1 : IntKind.i64.wrap ((i : Int) + 1) = (i : Int) + 1 := IntWalk.i64_in _ (by omega)
    have e2 : ((i : Int) + 1).toNat = i + 1 := by omega
    go_quiet (fail)
    clear e1 e2
    go_wp2
    go_ret3
    exact ⟨HN.out _ rfl, below_drewN (Below.refl _ _) _⟩
set_option maxHeartbeats 400000 in
theorem cut_any (s : ByteArray) (hs : s.size ≤ 1000000000) (w : World) :
    Calls Try.prog 52 #[.string s, .string ⟨#[10]⟩] w fun e w' => CutOut s e ∧ Below w.heap.size w w' := by
  have HC := Lib.hid (slCut_any s hs w)
  go_enter Try.func52, Try.ntmps52
  go_wp2_with fail
  refine HC.out.mono ?_
  rintro e w' ⟨hc, hb⟩
  have HB := Lib.hid hb
  clear HC hb
  rcases hc with ⟨h1, rfl⟩ | ⟨P, R, h1, h2, rfl⟩
  · have HN := Lib.hid h1
    clear h1
    go_wp2
    go_ret3
    exact ⟨Or.inl ⟨HN.out, rfl⟩, HB.out⟩
  · have H1 := Lib.hid h1
    have H2 := Lib.hid h2
    clear h1 h2
    go_wp2
    go_ret3
    exact ⟨Or.inr ⟨P, R, H1.out, H2.out, rfl⟩, HB.out⟩
end Go.Proofs.Ytflnmkgpmjefhaa.Gr
/- The first of a list of which a function tells an error: its error, its place. No program in sight. -/
namespace Go.Proofs.Ytflnmkgpmjefhaa.First
/-- The first place in l of which E tells an error, or l's length. -/
def firstBad {α : Type} (E : α → Int) : List α → Nat
  | [] => 0
  | x :: t => if E x = 0 then firstBad E t + 1 else 0
def errAt {α : Type} (E : α → Int) (l : List α) : Int := match l[firstBad E l]? with | some x => E x | none => 0
def plcAt {α : Type} (E : α → Int) (l : List α) : Int := if firstBad E l < l.length then (firstBad E l : Int) else 0
theorem first_le {α : Type} (E : α → Int) (l : List α) : firstBad E l ≤ l.length := by
  induction l with
  | nil => simp [firstBad]
  | cons x t ih => unfold firstBad; split <;> simp <;> omega
theorem first_good {α : Type} (E : α → Int) (l : List α) : ∀ j (h : j < l.length), j < firstBad E l → E l[j] = 0 := by
  induction l with
  | nil => intro j h; simp at h
  | cons x t ih =>
    intro j h hj
    unfold firstBad at hj
    by_cases hx : E x = 0
    · rw [if_pos hx] at hj
      cases j with
      | zero => exact hx
      | succ j => exact ih j (by simpa using h) (by omega)
    · rw [if_neg hx] at hj; omega
theorem first_bad {α : Type} (E : α → Int) (l : List α) : ∀ h : firstBad E l < l.length, E l[firstBad E l] ≠ 0 := by
  induction l with
  | nil => intro h; simp [firstBad] at h
  | cons x t ih =>
    intro h
    by_cases hx : E x = 0
    · have e : firstBad E (x :: t) = firstBad E t + 1 := by rw [firstBad, if_pos hx]
      have h' : firstBad E t < t.length := by rw [e] at h; simpa using h
      have := ih h'
      simp only [e, List.getElem_cons_succ]
      exact this
    · have e : firstBad E (x :: t) = 0 := by rw [firstBad, if_neg hx]
      simp only [e, List.getElem_cons_zero]
      exact hx
theorem err_bad {α : Type} (E : α → Int) (l : List α) (k : Nat) (h : k < l.length) (hk : firstBad E l = k) : errAt E l = E l[k] ∧ plcAt E l = (k : Int) := by
  subst hk
  unfold errAt plcAt
  rw [List.getElem?_eq_getElem h, if_pos h]
  exact ⟨rfl, rfl⟩
theorem err_good {α : Type} (E : α → Int) (l : List α) (hk : firstBad E l = l.length) : errAt E l = 0 ∧ plcAt E l = 0 := by
  unfold errAt plcAt
  rw [hk, List.getElem?_eq_none (Nat.le_refl _), if_neg (by omega)]
  exact ⟨rfl, rfl⟩
/-- No error just if none is told. -/
theorem err_iff {α : Type} (E : α → Int) (l : List α) : errAt E l = 0 ↔ firstBad E l = l.length := by
  constructor
  · intro h
    refine Nat.le_antisymm (first_le E l) (Nat.le_of_not_lt fun hc => ?_)
    have := first_bad E l hc
    rw [(err_bad E l _ hc rfl).1] at h
    exact this h
  · intro h; exact (err_good E l h).1
theorem first_all {α : Type} (E : α → Int) (l : List α) (h : ∀ x ∈ l, E x = 0) : firstBad E l = l.length := by
  induction l with
  | nil => rfl
  | cons x t ih =>
    rw [firstBad, if_pos (h x (by simp)), ih (fun y hy => h y (by simp [hy]))]; rfl
theorem all_first {α : Type} (E : α → Int) (l : List α) (h : firstBad E l = l.length) : ∀ x ∈ l, E x = 0 := by
  intro x hx
  obtain ⟨j, hj, rfl⟩ := List.getElem_of_mem hx
  exact first_good E l j hj (by omega)
/-- Behind good ones the first bad one is the first bad one of the rest. -/
theorem first_append {α : Type} (E : α → Int) (d r : List α) (h : ∀ x ∈ d, E x = 0) : firstBad E (d ++ r) = d.length + firstBad E r := by
  induction d with
  | nil => simp
  | cons x t ih =>
    rw [List.cons_append, firstBad, if_pos (h x (by simp)), ih (fun y hy => h y (by simp [hy])), List.length_cons]
    omega
/-- .. so a bad one behind them is it. -/
theorem first_at {α : Type} (E : α → Int) (d r : List α) (x : α) (h : ∀ y ∈ d, E y = 0) (hx : E x ≠ 0) : errAt E (d ++ x :: r) = E x ∧ plcAt E (d ++ x :: r) = (d.length : Int) := by
  have hf : firstBad E (d ++ x :: r) = d.length := by rw [first_append E d _ h, firstBad, if_neg hx]; rfl
  obtain ⟨h1, h2⟩ := err_bad E (d ++ x :: r) d.length (by simp) hf
  exact ⟨by rw [h1]; simp, h2⟩
theorem none_at {α : Type} (E : α → Int) (d : List α) (h : ∀ y ∈ d, E y = 0) : errAt E d = 0 ∧ plcAt E d = 0 := err_good E d (first_all E d h)
end Go.Proofs.Ytflnmkgpmjefhaa.First
