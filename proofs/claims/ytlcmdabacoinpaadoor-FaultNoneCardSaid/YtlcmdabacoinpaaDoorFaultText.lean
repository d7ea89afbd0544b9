/- The text of a fault: the program's and the document's. -/
import Derived.Test.YtlcmdabacoinpaaDoorFaultLaid
import Derived.Test.YtlcmdabacoinpaaDoorRef06
import Derived.Deep.RegionHeld3
namespace Go.Proofs.YtlcmdabacoinpaaDoor
open Go.RowKit Go.ChangeShapes
namespace Ft
/-- A fault's text. -/
def faultT (e k : Int) : List UInt8 := [101, 114, 114, 111, 114, 32] ++ Lib.itoa e ++ [32, 97, 116, 32] ++ Lib.itoa k
theorem itoa_short (n : Int) (h0 : -9223372036854775808 ≤ n) (h1 : n ≤ 9223372036854775807) : (⟨(Lib.itoa n).toArray⟩ : ByteArray).size ≤ 20 := by
  have h := DecPure.itoa_form n
  have := DecPure.itoa_len h.1 (by rw [h.2, DecPure.fits_iff]; exact ⟨h0, h1⟩)
  show (Lib.itoa n).toArray.size ≤ 20
  rw [List.size_toArray]
  exact this
/-- What stands while the text is put together. -/
def Stand (w0 : World) (F : Nat) (e k : Int) (w : World) : Prop := Below w0.heap.size w0 w ∧ Ten w ∧ IsFault w0.heap.size w e k F
theorem Stand.on {w0 : World} {F : Nat} {e k : Int} {w1 w2 : World} (h : Stand w0 F e k w1) (hb : Below w1.heap.size w1 w2) : Stand w0 F e k w2 :=
  have hlt : F < w1.heap.size := Nat.lt_of_lt_of_le h.2.2.1 h.1.size
  ⟨h.1.trans (hb.mono h.1.size), h.2.1.on hb, h.2.2.1, (hb.cell (p := ⟨F, 0, none⟩) (by exact hlt)).trans h.2.2.2.1, (hb.cell (p := ⟨F, 1, none⟩) (by exact hlt)).trans h.2.2.2.2⟩
theorem stand_keep {w0 : World} {F : Nat} {e k : Int} {w1 w2 : World} (h : Hid (Stand w0 F e k w1)) (hb : Below w1.heap.size w1 w2) :
    w2.cell? ⟨F, 0, none⟩ = some (.int .i64 e) ∧ w2.cell? ⟨F, 1, none⟩ = some (.int .i64 k) ∧ Hid (Stand w0 F e k w2) :=
  have hs := h.out.on hb
  ⟨hs.2.2.2.1, hs.2.2.2.2, Lib.hid hs⟩
theorem stand_ten {w0 : World} {F : Nat} {e k : Int} {w1 : World} (h : Hid (Stand w0 F e k w1)) : Ten w1 := h.out.2.1
theorem stand_bel {w0 : World} {F : Nat} {e k : Int} {w1 : World} (h : Hid (Stand w0 F e k w1)) : Below w0.heap.size w0 w1 := h.out.1
theorem text_cat (e k : Int) (A B : ByteArray) (hA : A = ⟨(Lib.itoa e).toArray⟩) (hB : B = ⟨(Lib.itoa k).toArray⟩) : (⟨#[101, 114, 114, 111, 114, 32]⟩ : ByteArray) ++ A ++ ⟨#[32, 97, 116, 32]⟩ ++ B = ⟨(faultT e k).toArray⟩ := by
  subst hA; subst hB
  have h1 := Str.cat_bytes [101, 114, 114, 111, 114, 32] (Lib.itoa e)
  have h2 := Str.cat_bytes ([101, 114, 114, 111, 114, 32] ++ Lib.itoa e) [32, 97, 116, 32]
  have h3 := Str.cat_bytes ([101, 114, 114, 111, 114, 32] ++ Lib.itoa e ++ [32, 97, 116, 32]) (Lib.itoa k)
  rw [← h2, ← h1] at h3
  exact h3
set_option maxHeartbeats 1000000 in
/-- Error, of a fault. -/
theorem error_any (F : Nat) (e k : Int) (w : World) (he0 : -9223372036854775808 ≤ e) (he1 : e ≤ 9223372036854775807) (hk0 : -9223372036854775808 ≤ k) (hk1 : k ≤ 9223372036854775807) (h : IsFault w.heap.size w e k F) (hT : Ten w) :
    Calls Tryd.prog 15 #[.pointer (some ⟨F, 0, none⟩)] w fun x w' => x = .returned (.string ⟨(faultT e k).toArray⟩) ∧ Below w.heap.size w w' := by
  have HS : Hid (Stand w F e k w) := Lib.hid ⟨Below.refl _ _, hT, h⟩
  obtain ⟨hlt, c0, c1⟩ := h
  have s1 := itoa_short e he0 he1
  have s2 := itoa_short k hk0 hk1
  have HC1 := Lib.hid (fun w hT => itoa_any e he0 he1 w hT)
  have HC2 := Lib.hid (fun w hT => itoa_any k hk0 hk1 w hT)
  obtain ⟨A, hA⟩ : ∃ A : ByteArray, A = ⟨(Lib.itoa e).toArray⟩ := ⟨_, rfl⟩
  obtain ⟨B, hB⟩ : ∃ B : ByteArray, B = ⟨(Lib.itoa k).toArray⟩ := ⟨_, rfl⟩
  have HX := Lib.hid (text_cat e k A B hA hB)
  rw [← hA] at s1 HC1
  rw [← hB] at s2 HC2
  have d1 : ¬9223372036854775807 < 6 + A.size := by omega
  have d2 : ¬9223372036854775807 < 6 + A.size + 4 := by omega
  have d3 : ¬9223372036854775807 < 6 + A.size + 4 + B.size := by omega
  clear hA hB he0 he1 hk0 hk1 hT
  go_enter Tryd.func15, Tryd.ntmps15
  go_wp2
  go_region_held3 (fun w' => w'.cell? ⟨F, 0, none⟩ = some (.int .i64 e) ∧ w'.cell? ⟨F, 1, none⟩ = some (.int .i64 k) ∧ Hid (Stand w F e k w'))
    (first
      | exact stand_keep HS ((Below.refl _ _).drew)
      | (go_split_ands; exact stand_keep (by assumption) hb1)
      | go_keep)
    (first
      | (go_at_call 23; go_split_ands; (with_reducible refine (HC1.out _ (stand_ten (by assumption))).mono ?_); rintro x w' ⟨rfl, hb1⟩)
      | (go_at_call 23; go_split_ands; (with_reducible refine (HC2.out _ (stand_ten (by assumption))).mono ?_); rintro x w' ⟨rfl, hb1⟩))
  go_wp2
  go_ret
  go_split_ands
  exact ⟨congrArg (fun b => Ending.returned (.string b)) HX.out, stand_bel (by assumption)⟩
end Ft
end Go.Proofs.YtlcmdabacoinpaaDoor
