/- A contract for strings.Cut at the byte 10. -/
import Derived.Test.YtflnmkgpmjefhaaDecShelf
import Derived.Test.YtflnmkgpmjefhaaWordPure
import Derived.Test.YtflnmkgpmjefhaaStr
import Derived.Deep.QuietTactic
import Derived.BigQuiet
import Derived.IntWalk
namespace Go.Proofs.Ytflnmkgpmjefhaa.Gr
open Go.RowKit Go.ChangeShapes WordPure
theorem byte_cases (c : UInt8) (l : List UInt8) : (Lib.indexByte l c = -1 ∧ NoC c l) ∨ ∃ i : Nat, Lib.indexByte l c = i ∧ i < l.length ∧ l = l.take i ++ c :: l.drop (i + 1) ∧ NoC c (l.take i) := by
  induction l with
  | nil => exact Or.inl ⟨rfl, fun x hc => by simp at hc⟩
  | cons b r ih =>
    by_cases hb : b = c
    · subst hb
      refine Or.inr ⟨0, ?_, by simp, rfl, fun x hc => by simp at hc⟩
      unfold Lib.indexByte; rw [if_pos (by simp)]; rfl
    · have hbe : (b == c) = false := beq_eq_false_iff_ne.2 hb
      rcases ih with ⟨h1, h2⟩ | ⟨i, h1, h2, h3, h4⟩
      · refine Or.inl ⟨?_, fun x hc => ?_⟩
        · unfold Lib.indexByte; rw [hbe, h1]; rfl
        · rw [List.mem_cons] at hc
          rcases hc with hc | hc
          · rw [hc]; exact hb
          · exact h2 x hc
      · refine Or.inr ⟨i + 1, ?_, by simp; omega, ?_, fun x hc => ?_⟩
        · unfold Lib.indexByte
          rw [hbe, h1, if_neg (by simp), if_neg (by rw [beq_iff_eq]; omega)]; omega
        · rw [List.take_succ_cons, List.drop_succ_cons, List.cons_append, ← h3]
        · rw [List.take_succ_cons, List.mem_cons] at hc
          rcases hc with hc | hc
          · rw [hc]; exact hb
          · exact h4 x hc
/-- What a text is cut into at its first blank. -/
def CutOut (s : ByteArray) (e : Ending) : Prop :=
  (NoC 10 s.data.toList ∧ e = .returned (.tuple #[.string s, .string ⟨#[]⟩, .bool false])) ∨
  (∃ P R : ByteArray, s.data.toList = P.data.toList ++ 10 :: R.data.toList ∧ NoC 10 P.data.toList ∧ e = .returned (.tuple #[.string P, .string R, .bool true]))
theorem extract_to (s : ByteArray) (i : Nat) : (s.extract 0 i).data.toList = s.data.toList.take i := by
  rw [Lib.extract_eq]
  show List.take (i - 0) (List.drop 0 s.data.toList) = _
  rw [Nat.sub_zero, List.drop_zero]
theorem extract_from (s : ByteArray) (i : Nat) : (s.extract i s.size).data.toList = s.data.toList.drop i := by
  rw [Lib.extract_eq]
  show List.take (s.size - i) (List.drop i s.data.toList) = _
  rw [List.take_of_length_le]
  rw [List.length_drop, ← Lib.size_eq]; omega
set_option maxHeartbeats 1000000 in
theorem slCut_any (s : ByteArray) (hs : s.size ≤ 1000000000) (w : World) :
    Calls Try.prog 62 #[.string s, .string ⟨#[10]⟩] w fun e w' => CutOut s e ∧ Below w.heap.size w w' := by
  have HC := Lib.hid (Try.stringslite_Index_one s 10 w)
  rcases byte_cases 10 s.data.toList with ⟨h1, h2⟩ | ⟨i, h1, h2, h3, h4⟩
  · rw [h1] at HC
    have HN := Lib.hid h2
    clear h1 h2
    go_enter Try.func62, Try.ntmps62
    go_wp2_with fail
    refine HC.out.mono ?_
    rintro e w' ⟨rfl, hw⟩
    subst hw
    clear HC
    go_wp2
    go_ret3
    exact ⟨Or.inl ⟨HN.out, rfl⟩, Below.refl _ _⟩
  · rw [h1] at HC
    have hsz := Lib.size_eq s
    have hi : i < s.size := by omega
    have HN : Hid (∀ e, e = .returned (.tuple #[.string (s.extract 0 i), .string (s.extract (i + 1) s.size), .bool true]) → CutOut s e) := Lib.hid fun e he => by
      refine Or.inr ⟨s.extract 0 i, s.extract (i + 1) s.size, ?_, ?_, he⟩
      · rw [extract_to s i, extract_from]; exact h3
      · rw [extract_to s i]; exact h4
    clear h1 h2 h3 h4 hsz
    have c1 : (0 : Int) ≤ ↑i := by omega
    have c2 : (↑i : Int) ≤ ↑s.size := by omega
    have c3 : (0 : Int) ≤ ↑i + 1 := by omega
    have c4 : (↑i + 1 : Int) ≤ ↑s.size := by omega
    go_enter Try.func62, Try.ntmps62
    go_wp2_with fail
    refine HC.out.mono ?_
    rintro e w' ⟨rfl, hw⟩
    subst hw
    clear HC
    go_wp2
    have e1 : IntKind.i64.wrap ((i : Int) + 1) = (i : Int) + 1 := IntWalk.i64_in _ (by omega)
    have e2 : ((i : Int) + 1).toNat = i + 1 := by omega
    go_quiet (fail)
    clear e1 e2
    go_wp2
    go_ret3
    exact ⟨HN.out _ rfl, below_drewN (Below.refl _ _) _⟩
set_option maxHeartbeats 400000 in
theorem cut_any (s : ByteArray) (hs : s.size ≤ 1000000000) (w : World) :
    Calls Try.prog 52 #[.string s, .string ⟨#[10]⟩] w fun e w' => CutOut s e ∧ Below w.heap.size w w' := by
  have HC := Lib.hid (slCut_any s hs w)
  go_enter Try.func52, Try.ntmps52
  go_wp2_with fail
  refine HC.out.mono ?_
  rintro e w' ⟨hc, hb⟩
  have HB := Lib.hid hb
  clear HC hb
  rcases hc with ⟨h1, rfl⟩ | ⟨P, R, h1, h2, rfl⟩
  · have HN := Lib.hid h1
    clear h1
    go_wp2
    go_ret3
    exact ⟨Or.inl ⟨HN.out, rfl⟩, HB.out⟩
  · have H1 := Lib.hid h1
    have H2 := Lib.hid h2
    clear h1 h2
    go_wp2
    go_ret3
    exact ⟨Or.inr ⟨P, R, H1.out, H2.out, rfl⟩, HB.out⟩
end Go.Proofs.Ytflnmkgpmjefhaa.Gr
