/- What the laws ask first: that faults are told at all. -/
import Derived.Test.YtlcmdabacoinpaaDoorFaultIs
import Derived.Test.YtlcmdabacoinpaaDoorFaultPath
namespace Go.Proofs.YtlcmdabacoinpaaDoor
open Go.RowKit Go.ChangeShapes
namespace Ft
def partLine : List UInt8 := [108, 105, 110, 101]
def partText : List UInt8 := [116, 101, 120, 116]
theorem path_two : (⟨(pathT [partText, partLine]).toArray⟩ : ByteArray) = ⟨#[116, 101, 120, 116, 47, 108, 105, 110, 101]⟩ := by rfl
theorem short_two : ShortP [partText, partLine] := ⟨by decide, by decide⟩
set_option maxHeartbeats 1000000 in
theorem awake_any (w : World) (hg : EtAt w) :
    Calls Tryd.prog 6 #[] w fun x w' => x = .returned (.bool true) ∧ Below w.heap.size w w' := by
  have b1 := (Below.refl w.heap.size w).alloc (Nat.le_refl _) (.cells #[.int .i64 2, .int .i64 7] 39)
  have HE1 := Lib.hid (errAt_made 2 7 w)
  have HB1 := Lib.hid b1
  have HG := Lib.hid hg
  clear hg b1
  go_enter Tryd.func6, Tryd.ntmps6
  go_wp2_with fail
  refine (at_any 2 7 (by decide) _).mono ?_
  rintro x w1 ⟨rfl, rfl⟩
  generalize w.alloc (.cells #[.int .i64 2, .int .i64 7] 39) = w1 at *
  have b2 := (Below.refl w1.heap.size w1).alloc (Nat.le_refl _) (.cells #[encS partLine, .iface 43 (.pointer (some ⟨w.heap.size, 0, none⟩))] 48)
  have HE2 := Lib.hid (errAt_within HE1.out partLine)
  have HB2 := Lib.hid (HB1.out.trans (b2.mono HB1.out.size))
  clear b2 HE1 HB1
  go_wp2_with fail
  refine (within_any _ _ _ _).mono ?_
  rintro x w2 ⟨rfl, hw2⟩
  have hw2' : w1.alloc (.cells #[encS partLine, .iface 43 (.pointer (some ⟨w.heap.size, 0, none⟩))] 48) = w2 := hw2
  rw [hw2'] at HE2 HB2
  clear hw2 hw2'
  have b3 := (Below.refl w2.heap.size w2).alloc (Nat.le_refl _) (.cells #[encS partText, .iface 46 (.pointer (some ⟨w1.heap.size, 0, none⟩))] 48)
  have HE3 := Lib.hid (errAt_within HE2.out partText)
  have HB3 := Lib.hid (HB2.out.trans (b3.mono HB2.out.size))
  clear b3 HE2 HB2
  go_wp2_with fail
  refine (within_any _ _ _ _).mono ?_
  rintro x w3 ⟨rfl, hw3⟩
  have hw3' : w2.alloc (.cells #[encS partText, .iface 46 (.pointer (some ⟨w1.heap.size, 0, none⟩))] 48) = w3 := hw3
  rw [hw3'] at HE3 HB3
  clear hw3 hw3'
  have HG3 := Lib.hid (HG.out.on HB3.out)
  go_wp2_with fail
  refine (of_any HE3.out (Nat.le_refl _) HG3.out).mono ?_
  rintro x w4 ⟨rfl, hb⟩
  have HE4 := Lib.hid (HE3.out.over hb (Nat.le_refl _))
  have HG4 := Lib.hid (HG3.out.on hb)
  have HB4 := Lib.hid (HB3.out.trans (hb.mono HB3.out.size))
  clear hb HE3 HG3 HB3
  go_wp2_with fail
  refine (is_any HE4.out 2 (by decide)).mono ?_
  rintro x w5 ⟨rfl, rfl⟩
  have e1 : eqB 2 2 = true := rfl
  have e2 : eqB 2 3 = false := rfl
  go_wp2_with fail
  refine (is_any HE4.out 3 (by decide)).mono ?_
  rintro x w5 ⟨rfl, rfl⟩
  have HP := Lib.hid (path_any HE4.out short_two HG4.out)
  rw [path_two] at HP
  go_wp2_with fail
  refine HP.out.mono ?_
  rintro x w6 ⟨rfl, hb⟩
  have HB6 := Lib.hid (HB4.out.trans (hb.mono HB4.out.size))
  clear hb HP HE4 HG4 HB4
  go_wp2
  go_ret
  exact ⟨rfl, HB6.out⟩
end Ft
end Go.Proofs.YtlcmdabacoinpaaDoor
