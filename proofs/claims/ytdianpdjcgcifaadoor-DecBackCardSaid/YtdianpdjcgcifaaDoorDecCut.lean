/- A contract for strings.Cut at one blank. -/
import Derived.Test.YtdianpdjcgcifaaDoorDecList
import Derived.Deep.QuietTactic
import Derived.BigQuiet
import Derived.IntWalk
namespace Go.Proofs.YtdianpdjcgcifaaDoor
open Go.RowKit Go.ChangeShapes DecPure
/-- What a text is cut into at its first blank. -/
def CutOut (s : ByteArray) (e : Ending) : Prop :=
  (NoB s.data.toList ∧ e = .returned (.tuple #[.string s, .string ⟨#[]⟩, .bool false])) ∨
  (∃ P R : ByteArray, s.data.toList = P.data.toList ++ 32 :: R.data.toList ∧ NoB P.data.toList ∧ e = .returned (.tuple #[.string P, .string R, .bool true]))
theorem extract_to (s : ByteArray) (i : Nat) (h : i ≤ s.size) : (s.extract 0 i).data.toList = s.data.toList.take i := by
  rw [Lib.extract_eq]
  show List.take (i - 0) (List.drop 0 s.data.toList) = _
  rw [Nat.sub_zero, List.drop_zero]
theorem extract_from (s : ByteArray) (i : Nat) : (s.extract i s.size).data.toList = s.data.toList.drop i := by
  rw [Lib.extract_eq]
  show List.take (s.size - i) (List.drop i s.data.toList) = _
  rw [List.take_of_length_le]
  rw [List.length_drop, ← Lib.size_eq]; omega
set_option maxHeartbeats 1000000 in
theorem slCut_any (s : ByteArray) (hs : s.size ≤ 1000000000) (w : World) :
    Calls Tryd.prog 29 #[.string s, .string ⟨#[32]⟩] w fun e w' => CutOut s e ∧ Below w.heap.size w w' := by
  have HC := Lib.hid (Tryd.stringslite_Index_one s 32 w)
  rcases blank_cases s.data.toList with ⟨h1, h2⟩ | ⟨i, h1, h2, h3, h4⟩
  · rw [h1] at HC
    have HN := Lib.hid h2
    clear h1 h2
    go_enter Tryd.func29, Tryd.ntmps29
    go_wp2_with fail
    refine HC.out.mono ?_
    rintro e w' ⟨rfl, hw⟩
    subst hw
    clear HC
    go_wp2
    go_ret3
    exact ⟨Or.inl ⟨HN.out, rfl⟩, Below.refl _ _⟩
  · rw [h1] at HC
    have hsz := Lib.size_eq s
    have hi : i < s.size := by omega
    have HN : Hid (∀ e, e = .returned (.tuple #[.string (s.extract 0 i), .string (s.extract (i + 1) s.size), .bool true]) → CutOut s e) := Lib.hid fun e he => by
      refine Or.inr ⟨s.extract 0 i, s.extract (i + 1) s.size, ?_, ?_, he⟩
      · rw [extract_to s i (by omega), extract_from]; exact h3
      · rw [extract_to s i (by omega)]; exact h4
    clear h1 h2 h3 h4 hsz
    have c1 : (0 : Int) ≤ ↑i := by omega
    have c2 : (↑i : Int) ≤ ↑s.size := by omega
    have c3 : (0 : Int) ≤ ↑i + 1 := by omega
    have c4 : (↑i + 1 : Int) ≤ ↑s.size := by omega
    go_enter Tryd.func29, Tryd.ntmps29
    go_wp2_with fail
    refine HC.out.mono ?_
    rintro e w' ⟨rfl, hw⟩
    subst hw
    clear HC
    go_wp2
    have e1 : IntKind.i64.wrap ((i : Int) + 1) = (i : Int) + 1 := IntWalk.i64_in _ (by omega)
    have e2 : ((i : Int) + 1).toNat = i + 1 := by omega
    go_quiet (fail)
    clear e1 e2
    go_wp2
    go_ret3
    exact ⟨HN.out _ rfl, below_drewN (Below.refl _ _) _⟩
set_option maxHeartbeats 400000 in
theorem cut_any (s : ByteArray) (hs : s.size ≤ 1000000000) (w : World) :
    Calls Tryd.prog 24 #[.string s, .string ⟨#[32]⟩] w fun e w' => CutOut s e ∧ Below w.heap.size w w' := by
  have HC := Lib.hid (slCut_any s hs w)
  go_enter Tryd.func24, Tryd.ntmps24
  go_wp2_with fail
  refine HC.out.mono ?_
  rintro e w' ⟨hc, hb⟩
  have HB := Lib.hid hb
  clear HC hb
  rcases hc with ⟨h1, rfl⟩ | ⟨P, R, h1, h2, rfl⟩
  · have HN := Lib.hid h1
    clear h1
    go_wp2
    go_ret3
    exact ⟨Or.inl ⟨HN.out, rfl⟩, HB.out⟩
  · have H1 := Lib.hid h1
    have H2 := Lib.hid h2
    clear h1 h2
    go_wp2
    go_ret3
    exact ⟨Or.inr ⟨P, R, H1.out, H2.out, rfl⟩, HB.out⟩
end Go.Proofs.YtdianpdjcgcifaaDoor
