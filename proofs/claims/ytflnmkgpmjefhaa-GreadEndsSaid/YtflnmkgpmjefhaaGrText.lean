/- Contracts: a text that is read line by line; what leaves by a panic with its number. -/
import Derived.Test.YtflnmkgpmjefhaaGrCut
import Derived.Test.YtflnmkgpmjefhaaGrHeadC
import Derived.Test.YtflnmkgpmjefhaaTurn
namespace Go.Proofs.Ytflnmkgpmjefhaa.Gr
open Go.RowKit Go.ChangeShapes DecPure WordPure GrPure EdPure Str
def stopV (E K : Int) : Value := .iface 67 (.agg #[.int .i64 E, .int .i64 K])
theorem check_ok (p : Option Addr) (w : World) :
    Calls Try.prog 37 #[.pointer p, .int .i64 0] w fun e w' => e = .returned (.tuple #[]) ∧ w' = w := by
  go_enter Try.func37, Try.ntmps37
  go_wp2
  go_end0
  exact ⟨rfl, rfl⟩
theorem check_bad (T : Nat) (E K : Int) (hE : E ≠ 0) (w : World) (h : w.cell? ⟨T, 1, none⟩ = some (.int .i64 K)) :
    Calls Try.prog 37 #[.pointer (some ⟨T, 0, none⟩), .int .i64 E] w fun e w' => e = .panicked [{ v := stopV E K, recovered := false }] ∧ w' = w := by
  have t : (E != 0) = true := by simpa using hE
  have lt := World.block_lt_of_cell? w _ h
  clear hE
  go_enter Try.func37, Try.ntmps37
  go_wp2
  exact ⟨rfl, rfl, rfl⟩
theorem turn_two {T : Nat} {w w1 : World} (hb : Below w.heap.size w w1) (u v : Value) : Turn (fun b => b = T) w ((w1.setCell ⟨T, 0, none⟩ u).setCell ⟨T, 1, none⟩ v) :=
  ((Turn.ofBelow (O := fun b => b = T) hb).trans (Turn.cell (O := fun b => b = T) w1 0 u rfl) (fun _ h => Or.inl h)).trans (Turn.cell (O := fun b => b = T) _ 1 v rfl) (fun _ h => Or.inl h)
def NextOut (T : Nat) (s : ByteArray) (k : Nat) (w : World) (e : Ending) (w' : World) : Prop :=
  Turn (fun b => b = T) w w' ∧ ((NoC 10 s.data.toList ∧ e = .panicked [{ v := stopV 2 ((k : Int) + 1), recovered := false }]) ∨
    (∃ P R : ByteArray, s.data.toList = P.data.toList ++ 10 :: R.data.toList ∧ NoC 10 P.data.toList ∧ e = .returned (.string P) ∧ TwoAt T w' (.string R) (.int .i64 ((k : Int) + 1))))
set_option maxHeartbeats 1000000 in
theorem next_any (T : Nat) (s : ByteArray) (hs : s.size ≤ 100000000) (k : Nat) (hk : k ≤ 1000000000) (w : World) (hT : TwoAt T w (.string s) (.int .i64 (k : Int))) :
    Calls Try.prog 36 #[.pointer (some ⟨T, 0, none⟩)] w fun e w' => NextOut T s k w e w' := by
  have HC := Lib.hid (cut_any s (by omega) w)
  have HT := Lib.hid hT
  have i0 : (0 : Int) ≤ (k : Int) := by omega
  have i1 : (k : Int) ≤ 1000000000 := by omega
  have lt := hT.lt
  obtain ⟨c0, c1, f0, f1⟩ := hT
  go_enter Try.func36, Try.ntmps36
  go_wp2_with fail
  refine HC.out.mono ?_
  rintro e w1 ⟨h, hb1⟩
  have HT1 := Lib.hid (HT.out.on hb1 HT.out.lt)
  have HB1 := Lib.hid hb1
  clear hb1 HC c0 c1 f0 f1 lt HT
  obtain ⟨c0, c1, f0, f1⟩ := HT1.out
  have lt := HT1.out.lt
  rcases h with ⟨h1, rfl⟩ | ⟨P, R, h1, h2, rfl⟩
  · have H1 := Lib.hid h1
    have HX := Lib.hid (HT1.out.set (.string ⟨#[]⟩) (.int .i64 ((k : Int) + 1)))
    have HU := Lib.hid (turn_two (T := T) HB1.out (.string ⟨#[]⟩) (.int .i64 ((k : Int) + 1)))
    clear h1 HT1 HB1
    go_wp2_with fail
    refine (check_bad T 2 ((k : Int) + 1) (by decide) _ HX.out.2.1).mono ?_
    rintro e w2 ⟨rfl, rfl⟩
    go_wp2
    exact ⟨rfl, HU.out, Or.inl ⟨H1.out, rfl⟩⟩
  · have H1 := Lib.hid h1
    have H2 := Lib.hid h2
    have HX := Lib.hid (HT1.out.set (.string R) (.int .i64 ((k : Int) + 1)))
    have HU := Lib.hid (turn_two (T := T) HB1.out (.string R) (.int .i64 ((k : Int) + 1)))
    clear h1 h2 HT1 HB1
    go_wp2
    go_ret
    exact ⟨HU.out, Or.inr ⟨P, R, H1.out, H2.out, rfl, HX.out⟩⟩
theorem end_ok (T : Nat) (s : ByteArray) (h0 : s.data.toList = []) (v : Value) (w : World) (hT : TwoAt T w (.string s) v) :
    Calls Try.prog 38 #[.pointer (some ⟨T, 0, none⟩)] w fun e w' => e = .returned (.tuple #[]) ∧ w' = w := by
  have t := empty_yes h0
  have lt := hT.lt
  obtain ⟨c0, c1, f0, f1⟩ := hT
  clear h0
  go_enter Try.func38, Try.ntmps38
  go_wp2
  go_end0
  exact ⟨rfl, rfl⟩
theorem end_bad (T : Nat) (s : ByteArray) (h0 : s.data.toList ≠ []) (k : Nat) (hk : k ≤ 1000000000) (w : World) (hT : TwoAt T w (.string s) (.int .i64 (k : Int))) :
    Calls Try.prog 38 #[.pointer (some ⟨T, 0, none⟩)] w fun e w' => e = .panicked [{ v := stopV 2 ((k : Int) + 1), recovered := false }] ∧ Turn (fun b => b = T) w w' := by
  have t := empty_no h0
  have lt := hT.lt
  have i0 : (0 : Int) ≤ (k : Int) := by omega
  have i1 : (k : Int) ≤ 1000000000 := by omega
  obtain ⟨c0, c1, f0, f1⟩ := hT
  have hX : (w.setCell ⟨T, 1, none⟩ (.int .i64 ((k : Int) + 1))).cell? ⟨T, 1, none⟩ = some (.int .i64 ((k : Int) + 1)) := World.cell?_setCell_same _ _ _ c1
  have HX := Lib.hid hX
  have HU := Lib.hid (Turn.cell (O := fun b => b = T) w 1 (.int .i64 ((k : Int) + 1)) (b := T) rfl)
  clear h0 hX
  go_enter Try.func38, Try.ntmps38
  go_wp2_with fail
  refine (check_bad T 2 ((k : Int) + 1) (by decide) _ HX.out).mono ?_
  rintro e w2 ⟨rfl, rfl⟩
  go_wp2
  exact ⟨rfl, rfl, HU.out⟩
end Go.Proofs.Ytflnmkgpmjefhaa.Gr
