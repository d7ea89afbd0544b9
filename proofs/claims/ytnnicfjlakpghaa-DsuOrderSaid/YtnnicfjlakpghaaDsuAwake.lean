/- The program joins classes at all (awake); it has the classes that the document has (same). -/
import Derived.Test.YtnnicfjlakpghaaDsuRef4
namespace Go.Proofs.Ytnnicfjlakpghaa
open Go.RowKit Go.ChangeShapes Go.Maps DsuPure
def q0 : Nat → Nat := fun x => x
def q1 : Nat → Nat := joinZ 4 q0 2 1
def q2 : Nat → Nat := joinZ 4 q1 0 2
def q3 : Nat → Nat := joinZ 4 q2 1 0
set_option maxHeartbeats 1000000 in
theorem awake_any (w : World) :
    Calls Try.prog 5 #[] w fun e w' => e = .returned (.bool true) ∧ Below w.heap.size w w' := by
  have h1 := Lib.hid (show twoZ 4 q0 2 1 = true by decide)
  have h2 := Lib.hid (show twoZ 4 q1 0 2 = true by decide)
  have h3 := Lib.hid (show twoZ 4 q2 1 0 = false by decide)
  have h4 := Lib.hid (show ofZ 4 q3 2 = 0 by decide)
  have h5 := Lib.hid (show rootsN 4 q3 = 2 by decide)
  have h6 := Lib.hid (show sizeZ 4 q3 1 = 3 by decide)
  go_enter Try.func5, Try.ntmps5
  go_wp2_with fail
  refine (new_any 4 w).mono ?_
  rintro e w1 ⟨b, g, m, rfl, hb, l1, l2, l3, hc⟩
  have HC1 : Hid (Below w.heap.size w w1 ∧ ClsAt b g m w1 4 q0) := Lib.hid ⟨hb, hc⟩
  clear hb hc
  go_wp2_with fail
  refine (join_any b g m 4 q0 2 1 w1 HC1.out.2).mono ?_
  rintro e w2 ⟨rfl, t, k⟩
  rw [h1.out]
  have HC2 : Hid (Below w.heap.size w w2 ∧ ClsAt b g m w2 4 q1) := Lib.hid ⟨HC1.out.1.trans (t.below HC1.out.1.size l2 l3), k⟩
  clear t k HC1
  go_wp2_with fail
  refine (join_any b g m 4 q1 0 2 w2 HC2.out.2).mono ?_
  rintro e w3 ⟨rfl, t, k⟩
  rw [h2.out]
  have HC3 : Hid (Below w.heap.size w w3 ∧ ClsAt b g m w3 4 q2) := Lib.hid ⟨HC2.out.1.trans (t.below HC2.out.1.size l2 l3), k⟩
  clear t k HC2
  go_wp2_with fail
  refine (join_any b g m 4 q2 1 0 w3 HC3.out.2).mono ?_
  rintro e w4 ⟨rfl, t, k⟩
  rw [h3.out]
  have HC4 : Hid (Below w.heap.size w w4 ∧ ClsAt b g m w4 4 q3) := Lib.hid ⟨HC3.out.1.trans (t.below HC3.out.1.size l2 l3), k⟩
  clear t k HC3
  go_wp2_with fail
  refine (of_any b g m 4 q3 2 w4 HC4.out.2).mono ?_
  rintro e w5 ⟨rfl, t, k⟩
  rw [h4.out]
  have HC5 : Hid (Below w.heap.size w w5 ∧ ClsAt b g m w5 4 q3) := Lib.hid ⟨HC4.out.1.trans (t.below HC4.out.1.size l2 l3), k⟩
  clear t k HC4
  go_wp2_with fail
  refine (count_any b g m 4 q3 w5 HC5.out.2).mono ?_
  rintro e w6 ⟨rfl, rfl⟩
  rw [h5.out]
  go_wp2_with fail
  refine (size_any b g m 4 q3 1 w5 HC5.out.2).mono ?_
  rintro e w6 ⟨rfl, t, k⟩
  rw [h6.out]
  have HC6 : Hid (Below w.heap.size w w6) := Lib.hid (HC5.out.1.trans (t.below HC5.out.1.size l2 l3))
  clear t k HC5
  go_wp2
  go_ret
  exact ⟨rfl, HC6.out⟩
/-- The list lies in neither block. -/
def Apart (a : Option Addr) (g m : Nat) : Prop := ∀ z, a = some z → z.block ≠ g ∧ z.block ≠ m
theorem RefAt.turn {g m n : Nat} {W W' : World} {a : Option Addr} {p : Nat → Nat} (h : RefAt W a n p) (ho : Apart a g m) (ht : Turns g m W W') : RefAt W' a n p := by
  rcases h with h | ⟨b, off, rfl, hN, hc⟩
  · exact Or.inl h
  · have := ho _ rfl
    exact Or.inr ⟨b, off, rfl, Nat.lt_of_lt_of_le hN ht.2.2.2.1, fun i hi => (World.cell?_of_block (ht.2.2.2.2 b hN this.1 this.2)).trans (hc i hi)⟩
/-- What is held over the calls of same. -/
def SameAt (w : World) (b g m n : Nat) (p : Nat → Nat) (B : Nat) (a : Option Addr) (c : Nat) (W : World) : Prop :=
  Turns g m w W ∧ ClsAt b g m W n p ∧ OneAt B W (.slice a n c) ∧ RefAt W a n p ∧ Apart a g m ∧ B ≠ g ∧ B ≠ m
theorem SameAt.turn {w W W' : World} {b g m n B c : Nat} {p : Nat → Nat} {a : Option Addr} (h : SameAt w b g m n p B a c W) (ht : Turns g m W W') (hc : ClsAt b g m W' n p) : SameAt w b g m n p B a c W' := by
  obtain ⟨h1, h2, h3, h4, h5, h6, h7⟩ := h
  have hk := ht.2.2.2.2 B h3.lt h6 h7
  exact ⟨h1.trans ht, hc, ⟨(World.cell?_of_block hk).trans h3.1, (World.frozen?_of_block hk).trans h3.2⟩, h4.turn h5 ht, h5, h6, h7⟩
theorem SameAt.keep {w W W' : World} {b g m n B c : Nat} {p : Nat → Nat} {a : Option Addr} (h : SameAt w b g m n p B a c W) (hb : Below W.heap.size W W') : SameAt w b g m n p B a c W' := h.turn (Turns.ofBelow hb) (h.2.1.keep hb)
theorem SameAt.both {w W : World} {b g m n B c : Nat} {p : Nat → Nat} {a : Option Addr} (h : SameAt w b g m n p B a c W) : W.cell? ⟨B, 0, none⟩ = some (.slice a n c) ∧ Hid (SameAt w b g m n p B a c W) := ⟨h.2.2.1.1, Lib.hid h⟩
set_option maxRecDepth 100000 in
set_option maxHeartbeats 4000000 in
theorem same_true (b g m n : Nat) (p : Nat → Nat) (a : Option Addr) (c : Nat) (v : Int) (w : World) (h : ClsAt b g m w n p) (hr : RefAt w a n p) (ho : Apart a g m) :
    Calls Try.prog 13 #[.pointer (some ⟨b, 0, none⟩), .agg #[.slice a n c], .int .i64 v] w fun e w' => e = .returned (.bool true) ∧ Turns g m w w' ∧ ClsAt b g m w' n p := by
  have hn := h.1
  have HS : Hid (SameAt w b g m n p w.heap.size a c (w.alloc (.cells #[.slice a n c] 28))) := Lib.hid (by
    have hb := (Below.refl _ w).alloc (Nat.le_refl _) (.cells #[.slice a n c] 28)
    have hl := h.lt
    exact ⟨Turns.ofBelow hb, h.keep hb, OneAt.new w _ _, hr.keep hb, ho, by omega, by omega⟩)
  have HLn := Lib.hid (listsP_len n p)
  clear h hr ho
  go_enter Try.func13, Try.ntmps13
  go_wp2_with fail
  generalize w.alloc (.cells #[.slice a n c] 28) = W0 at *
  generalize w.heap.size = B at *
  go_region_held3 (fun W => W.cell? ⟨B, 0, none⟩ = some (.slice a n c) ∧ Hid (SameAt w b g m n p B a c W))
    (first
      | exact (HS.out.keep ((Below.refl _ _).drew)).both
      | (go_split_ands; exact ((by assumption : Hid (SameAt w b g m n p B a c _)).out.turn ht1 hc1).both)
      | (go_split_ands; exact ((by assumption : Hid (SameAt w b g m n p B a c _)).out.keep hb1).both)
      | (go_split_ands; exact (by assumption : Hid (SameAt w b g m n p B a c _)).out.both)
      | go_keep)
    (first
      | (go_at_call 17; go_split_ands; refine (room_any b g m n p _ (by assumption : Hid (SameAt w b g m n p B a c _)).out.2.1).mono ?_; rintro e v1 ⟨rfl, rfl⟩)
      | (go_at_call 18; go_split_ands; refine (of_any b g m n p v _ (by assumption : Hid (SameAt w b g m n p B a c _)).out.2.1).mono ?_; rintro e v1 ⟨rfl, ht1, hc1⟩)
      | (go_at_call 10; go_split_ands; refine (ofRef_any n p a c v _ (by assumption : Hid (SameAt w b g m n p B a c _)).out.2.2.2.1).mono ?_; rintro e v1 ⟨rfl, hb1⟩)
      | (go_at_call 20; go_split_ands; refine (size_any b g m n p v _ (by assumption : Hid (SameAt w b g m n p B a c _)).out.2.1).mono ?_; rintro e v1 ⟨rfl, ht1, hc1⟩)
      | (go_at_call 23; go_split_ands; refine (sizeRef_any n hn p a c v _ (by assumption : Hid (SameAt w b g m n p B a c _)).out.2.2.2.1).mono ?_; rintro e v1 ⟨rfl, hb1⟩)
      | (go_at_call 19; go_split_ands; refine (count_any b g m n p _ (by assumption : Hid (SameAt w b g m n p B a c _)).out.2.1).mono ?_; rintro e v1 ⟨rfl, rfl⟩)
      | (go_at_call 16; go_split_ands; refine (listRef_any n hn p a c _ (by assumption : Hid (SameAt w b g m n p B a c _)).out.2.2.2.1).mono ?_; rintro e v1 ⟨q, d, rfl, hrw, hb1⟩; rw [HLn.out]))
  all_goals go_wp2
  all_goals go_ret
  all_goals exact ⟨rfl, (by assumption : _ ∧ Hid (SameAt w b g m n p B a c _)).2.out.1, (by assumption : _ ∧ Hid (SameAt w b g m n p B a c _)).2.out.2.1⟩
end Go.Proofs.Ytnnicfjlakpghaa
