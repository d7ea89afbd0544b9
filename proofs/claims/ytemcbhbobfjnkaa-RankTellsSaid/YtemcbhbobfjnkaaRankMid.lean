/- Contracts of Median and Distinct. -/
import Derived.Test.YtemcbhbobfjnkaaRankRising
namespace Go.Proofs.Ytemcbhbobfjnkaa
open Go.RowKit Go.ChangeShapes RankPure
open Go.Sort hiding Below
/-- The key in the middle. -/
def medV (ks : List Int) : Int := (sortK ks).getD ((ks.length - 1) / 2) 0
theorem medV_at {ks : List Int} (h : 0 < ks.length) : medV ks = (sortK ks)[(ks.length - 1) / 2]'(by rw [sortK_len]; omega) := by
  unfold medV
  rw [List.getD_eq_getElem?_getD, List.getElem?_eq_getElem (by rw [sortK_len]; omega)]
  rfl
set_option maxHeartbeats 400000 in
theorem median_any (a : Option Addr) (c : Nat) (ks : List Int) (hlen : ks.length ≤ 1000) (w : World) (hR : ReadsL encZ w.heap.size w a ks) :
    Calls Try.prog 7 #[.slice a ks.length c] w fun e w' =>
      (ks = [] ∧ e = .returned (.tuple #[.int .i64 0, .bool false]) ∨ 0 < ks.length ∧ e = .returned (.tuple #[.int .i64 (medV ks), .bool true])) ∧ Below w.heap.size w w' := by
  by_cases hn : ks.length = 0
  · have hnil : ks = [] := List.length_eq_zero_iff.1 hn
    have t : ((ks.length : Int) == 0) = true := by simp [hn]
    have HX := Lib.hid hnil
    clear hnil hR hn
    go_enter Try.func7, Try.ntmps7
    go_wp2
    go_ret2
    exact ⟨Or.inl ⟨HX.out, rfl⟩, Below.refl _ _⟩
  · have t : ((ks.length : Int) == 0) = false := by
      have : ¬ (ks.length : Int) = 0 := by omega
      simpa using this
    have HS := Lib.hid (rising_any a c ks hlen w hR)
    have hp : 0 < ks.length := by omega
    have HM := Lib.hid (medV_at hp)
    have hj1 : (((ks.length - 1) / 2 : Nat) : Int) < (ks.length : Int) := by omega
    have HP := Lib.hid hp
    clear hR hn
    go_enter Try.func7, Try.ntmps7
    go_wp2_with fail
    refine HS.out.mono ?_
    rintro e w1 ⟨ho, hb⟩
    rcases ho with ⟨hks, rfl⟩ | ⟨g, cap, rfl, hg, hgl, hcap, hr, hp'⟩
    · rw [hks] at hp; simp at hp
    · have hc : w1.cell? ⟨g, (ks.length - 1) / 2, none⟩ = some (.int .i64 (medV ks)) := by
        have := (hr ((ks.length - 1) / 2) (by rw [List.length_map, sortK_len]; omega)).1
        rw [List.getElem_map] at this
        rw [this, HM.out]
        rfl
      have HB := Lib.hid hb
      clear hb hr hg hcap hp'
      go_wp2
      go_ret2
      exact ⟨Or.inr ⟨HP.out, rfl⟩, HB.out⟩
/-- The unlike keys, rising. -/
def distL (ks : List Int) : List Int := Lib.compactUpTo (sortK ks).toArray (sortK ks).toArray.size
theorem distL_len (ks : List Int) : (distL ks).length ≤ ks.length := by
  unfold distL Lib.compactUpTo
  rw [List.length_map]
  refine Nat.le_trans (List.length_filter_le _ _) ?_
  rw [List.length_range, List.size_toArray, sortK_len]
  exact Nat.le_refl _
theorem distL_nil : distL [] = [] := List.eq_nil_of_length_eq_zero (by have := distL_len []; simpa using this)
theorem compact_any (g cap : Nat) (ks : List Int) (w : World) (hr : RowIs g w ((sortK ks).map encZ)) (hg : g < w.heap.size) (hlen : ks.length ≤ 1000) (hcap : ks.length ≤ cap) :
    Calls Try.prog 24 #[.slice (some ⟨g, 0, none⟩) ks.length cap] w fun e w' => e = .returned (.slice (some ⟨g, 0, none⟩) (distL ks).length cap) ∧ Below g w w' ∧ ReadsL encZ w'.heap.size w' (some ⟨g, 0, none⟩) (distL ks) := by
  have hsz : (sortK ks).toArray.size = ks.length := by rw [List.size_toArray, sortK_len]
  have hH : Holds (Value.int .i64) w g 0 (sortK ks).toArray := by
    intro i hi
    rw [List.size_toArray] at hi
    rw [get_bang hi, Nat.zero_add]
    have := hr i (by rw [List.length_map]; exact hi)
    rw [List.getElem_map] at this
    exact this
  have h := AnyE.slices_Compact Try.laysCompact (Value.int .i64) (fun _ => rfl) (.intD _ _ _) (.intD _ _ _) 0 Try.zeroValue2 g 0 cap (sortK ks).toArray w hH (by rw [hsz]; omega) (by rw [hsz]; exact hcap)
  rw [hsz] at h
  have hD : Lib.compactUpTo (sortK ks).toArray ks.length = distL ks := by unfold distL; rw [hsz]
  rw [hD] at h
  refine Calls.mono h ?_
  rintro e w' ⟨rfl, q, rfl⟩
  have hb := sortWorld_below (Value.int .i64) w g 0 q (distL ks ++ List.replicate (ks.length - (distL ks).length) 0).toArray #[] hg
  have hx := fun i (hi : i < (distL ks).length) => holds_sortWorld (Value.int .i64) w g 0 q (sortK ks).toArray (distL ks ++ List.replicate (ks.length - (distL ks).length) 0).toArray #[] hg hH (by
    have := distL_len ks
    rw [hsz]; simp; omega) i (by simp; omega)
  unfold sortWorld at hb hx
  rw [grow_empty] at hb hx
  refine ⟨rfl, hb, ?_⟩
  by_cases h0 : distL ks = []
  · exact Or.inl h0
  · refine Or.inr ⟨g, 0, rfl, by simpa using hg, fun i hi => ?_⟩
    have := (hx i hi).1
    rw [get_bang (by simp; omega), List.getElem_append_left hi] at this
    exact this
theorem compact_none (w : World) :
    Calls Try.prog 24 #[.slice none 0 0] w fun e w' => e = .returned (.slice none 0 0) ∧ w' = w := by
  go_enter Try.func24, Try.ntmps24
  go_wp2
  go_ret
  exact ⟨rfl, rfl⟩
set_option maxHeartbeats 400000 in
theorem distinct_any (a : Option Addr) (c : Nat) (ks : List Int) (hlen : ks.length ≤ 1000) (w : World) (hR : ReadsL encZ w.heap.size w a ks) :
    Calls Try.prog 14 #[.slice a ks.length c] w fun e w' => (∃ p cap, e = .returned (.slice p (distL ks).length cap) ∧ ReadsL encZ w'.heap.size w' p (distL ks)) ∧ Below w.heap.size w w' := by
  have HS := Lib.hid (rising_any a c ks hlen w hR)
  clear hR
  go_enter Try.func14, Try.ntmps14
  go_wp2_with fail
  refine HS.out.mono ?_
  rintro e w1 ⟨ho, hb⟩
  rcases ho with ⟨hks, rfl⟩ | ⟨g, cap, rfl, hg, hgl, hcap, hr, hp'⟩
  · have HX := Lib.hid (And.intro hks hb)
    have HC := Lib.hid (compact_none w1)
    clear hks hb
    go_wp2_with fail
    refine HC.out.mono ?_
    rintro e w2 ⟨rfl, rfl⟩
    go_wp2
    go_ret
    refine ⟨⟨none, 0, ?_, ?_⟩, HX.out.2⟩
    · rw [HX.out.1, distL_nil]; rfl
    · exact Or.inl (by rw [HX.out.1, distL_nil])
  · have HC := Lib.hid (compact_any g cap ks w1 hr hgl hlen hcap)
    have HB := Lib.hid (And.intro hb hg)
    clear hr hgl hcap hb hg hp'
    go_wp2_with fail
    refine HC.out.mono ?_
    rintro e w2 ⟨rfl, hb2, hr2⟩
    have HB2 := Lib.hid (And.intro hb2 hr2)
    clear hb2 hr2
    go_wp2
    go_ret
    exact ⟨⟨_, cap, rfl, HB2.out.2⟩, HB.out.1.trans (HB2.out.1.mono HB.out.2)⟩
end Go.Proofs.Ytemcbhbobfjnkaa
