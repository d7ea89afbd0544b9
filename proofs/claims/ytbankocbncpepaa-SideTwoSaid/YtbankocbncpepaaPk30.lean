/- Texts that the laws of this seat stand on, part 30. -/
import Derived.Test.YtbankocbncpepaaPk27
import Derived.Test.YtbankocbncpepaaPk22
import Derived.Test.YtbankocbncpepaaPk29
import Derived.Test.YtbankocbncpepaaPk24
import Derived.Test.YtbankocbncpepaaPk11
import Derived.WideShapes
import Derived.ChangeReads
import Derived.ChangeOld
import Derived.ChangeSlices
import Derived.WalkKit
import Derived.ProofKit
import Derived.OpenShut
/- The document's New of a graph. -/
namespace Go.Proofs.Ytbankocbncpepaa
open Go.RowKit Go.ChangeShapes EdPure NtPure NumPure
@[go_sem] theorem merged_l (x y : Value) (w : World) : (Instr.field 77 (.agg #[x, y]) 0).run Try.prog w = .ok x w := by kernel_rfl
/-- Four cells of one block. -/
def QuadAt (N : Nat) (w : World) (a b c d : Value) : Prop := RowIs N w [a, b, c, d]
theorem QuadAt.cells {N : Nat} {w : World} {a b c d : Value} (h : QuadAt N w a b c d) :
    (w.cell? ⟨N, 0, none⟩ = some a ∧ w.cell? ⟨N, 1, none⟩ = some b ∧ w.cell? ⟨N, 2, none⟩ = some c ∧ w.cell? ⟨N, 3, none⟩ = some d) ∧
    (w.frozen? ⟨N, 0, none⟩ = false ∧ w.frozen? ⟨N, 1, none⟩ = false ∧ w.frozen? ⟨N, 2, none⟩ = false ∧ w.frozen? ⟨N, 3, none⟩ = false) :=
  ⟨⟨(h 0 (by simp)).1, (h 1 (by simp)).1, (h 2 (by simp)).1, (h 3 (by simp)).1⟩, (h 0 (by simp)).2, (h 1 (by simp)).2, (h 2 (by simp)).2, (h 3 (by simp)).2⟩
theorem QuadAt.lt {N : Nat} {w : World} {a b c d : Value} (h : QuadAt N w a b c d) : N < w.heap.size := RowIs.lt h (by simp)
theorem QuadAt.new (w : World) (a b c d : Value) (T : TypeId) : QuadAt w.heap.size (w.alloc (.cells #[a, b, c, d] T)) a b c d := by
  intro i hi
  match i, hi with
  | 0, _ => exact ⟨by simp, by simp⟩
  | 1, _ => exact ⟨by simp, by simp⟩
  | 2, _ => exact ⟨by simp, by simp⟩
  | 3, _ => exact ⟨by simp, by simp⟩
theorem QuadAt.set {N : Nat} {w : World} {a b c d : Value} (h : QuadAt N w a b c d) (x y z u : Value) : QuadAt N ((((w.setCell ⟨N, 0, none⟩ x).setCell ⟨N, 1, none⟩ y).setCell ⟨N, 2, none⟩ z).setCell ⟨N, 3, none⟩ u) x y z u :=
  RowIs.set (RowIs.set (RowIs.set (RowIs.set h (k := 0) (by simp) x) (k := 1) (by simp) y) (k := 2) (by simp) z) (k := 3) (by simp) u
theorem QuadAt.on {N M : Nat} {w w' : World} {a b c d : Value} (h : QuadAt N w a b c d) (hb : Below M w w') (hM : N < M) : QuadAt N w' a b c d := RowIs.on h hb hM
/-- Edges do not lie in a block of a number, a list and two numbers. -/
theorem quad_apart {N R : Nat} {w : World} {x y z : Value} {q : Option Addr} {M : List Ed} (h : QuadAt R w x (.slice none 0 0) y z) (hn : ∀ i, 4 ≤ i → w.cell? ⟨R, i, none⟩ = none) (hr : ReadsE N w q M) (hN : N ≤ w.heap.size) (x1 x2 x3 x4 : Value) :
    ReadsE ((((w.setCell ⟨R, 0, none⟩ x1).setCell ⟨R, 1, none⟩ x2).setCell ⟨R, 2, none⟩ x3).setCell ⟨R, 3, none⟩ x4).heap.size ((((w.setCell ⟨R, 0, none⟩ x1).setCell ⟨R, 1, none⟩ x2).setCell ⟨R, 2, none⟩ x3).setCell ⟨R, 3, none⟩ x4) q M := by
  by_cases h0 : M = []
  · exact Or.inl h0
  obtain ⟨⟨c0, c1, c2, c3⟩, -⟩ := h.cells
  rcases hr with hr | ⟨b, off, rfl, hb, hc⟩
  · exact absurd hr h0
  have hl : 0 < M.length := List.length_pos_iff.2 h0
  have hne : b ≠ R := by
    rintro rfl
    obtain ⟨e0, e1, e2⟩ := hc 0 hl
    simp only [Nat.zero_mul, Nat.add_zero] at e0 e1 e2
    by_cases h2 : 4 ≤ off + 2
    · rw [hn _ h2] at e2; cases e2
    · have : off = 0 ∨ off = 1 := by omega
      rcases this with rfl | rfl
      · rw [c1] at e1; cases e1
      · rw [c1] at e0; cases e0
  have hcell : ∀ i, ((((w.setCell ⟨R, 0, none⟩ x1).setCell ⟨R, 1, none⟩ x2).setCell ⟨R, 2, none⟩ x3).setCell ⟨R, 3, none⟩ x4).cell? ⟨b, i, none⟩ = w.cell? ⟨b, i, none⟩ := fun i => by
    rw [World.cell?_setCell_other _ ⟨R, 3, none⟩ ⟨b, i, none⟩ _ (fun e => hne (congrArg Addr.block e).symm), World.cell?_setCell_other _ ⟨R, 2, none⟩ ⟨b, i, none⟩ _ (fun e => hne (congrArg Addr.block e).symm), World.cell?_setCell_other _ ⟨R, 1, none⟩ ⟨b, i, none⟩ _ (fun e => hne (congrArg Addr.block e).symm), World.cell?_setCell_other _ ⟨R, 0, none⟩ ⟨b, i, none⟩ _ (fun e => hne (congrArg Addr.block e).symm)]
  refine Or.inr ⟨b, off, rfl, by simp; omega, fun i hi => ?_⟩
  rw [hcell, hcell, hcell]
  exact hc i hi
def RefOut (n : Int) (l : List Ed) (w : World) (e : Ending) (w' : World) : Prop :=
  Below w.heap.size w w' ∧ (((errN n l).1 ≠ 0 ∧ e = .returned (.agg #[.int .i64 0, .slice none 0 0, .int .i64 (errN n l).1, .int .i64 (errN n l).2])) ∨
    (errN n l = (0, 0) ∧ ∃ (M : List Ed) (q : Option Addr) (c : Nat), mergeE l = some M ∧ e = .returned (.agg #[.int .i64 n, .slice q M.length c, .int .i64 0, .int .i64 0]) ∧ ReadsE w'.heap.size w' q M))
theorem agg4 {x y : Value} {a b c d : Int} (h1 : a = b) (h2 : c = d) : Ending.returned (.agg #[x, y, .int .i64 a, .int .i64 c]) = .returned (.agg #[x, y, .int .i64 b, .int .i64 d]) := by rw [h1, h2]
set_option maxRecDepth 100000 in
set_option maxHeartbeats 1000000 in
theorem refNewN_any (n : Int) (a : Option Addr) (c : Nat) (l : List Ed) (hl : l.length ≤ 100000) (hI : InL l) (w : World) (hR : ReadsE w.heap.size w a l) :
    Calls Try.prog 11 #[.int .i64 n, .slice a l.length c] w fun e w' => RefOut n l w e w' := by
  have HR := Lib.hid hR
  have HI := Lib.hid hI
  have HB0 : Hid (Below w.heap.size w (w.alloc (.cells #[.int .i64 0, .slice none 0 0, .int .i64 0, .int .i64 0] 38))) := Lib.hid ((Below.refl _ _).alloc (Nat.le_refl _) _)
  have HQ0 : Hid (QuadAt w.heap.size (w.alloc (.cells #[.int .i64 0, .slice none 0 0, .int .i64 0, .int .i64 0] 38)) (.int .i64 0) (.slice none 0 0) (.int .i64 0) (.int .i64 0)) := Lib.hid (QuadAt.new _ _ _ _ _ _)
  have HX0 : Hid (∀ i, 4 ≤ i → (w.alloc (.cells #[.int .i64 0, .slice none 0 0, .int .i64 0, .int .i64 0] 38)).cell? ⟨w.heap.size, i, none⟩ = none) := Lib.hid fun i hi => by
    rw [World.cell?_alloc_at _ _ _ _ rfl]
    simp
    omega
  clear hR hI
  have fin : ∀ (W : World) (y1 y2 y3 y4 : Value), Below w.heap.size w W → QuadAt w.heap.size W y1 y2 y3 y4 → ∀ x1 x2 x3 x4, Hid (Below w.heap.size w ((((W.setCell ⟨w.heap.size, 0, none⟩ x1).setCell ⟨w.heap.size, 1, none⟩ x2).setCell ⟨w.heap.size, 2, none⟩ x3).setCell ⟨w.heap.size, 3, none⟩ x4) ∧
      QuadAt w.heap.size ((((W.setCell ⟨w.heap.size, 0, none⟩ x1).setCell ⟨w.heap.size, 1, none⟩ x2).setCell ⟨w.heap.size, 2, none⟩ x3).setCell ⟨w.heap.size, 3, none⟩ x4) x1 x2 x3 x4) := fun W _ _ _ _ hb hq x1 x2 x3 x4 =>
    Lib.hid ⟨(((hb.setCell (p := ⟨w.heap.size, 0, none⟩) (Nat.le_refl _) x1).setCell (p := ⟨w.heap.size, 1, none⟩) (Nat.le_refl _) x2).setCell (p := ⟨w.heap.size, 2, none⟩) (Nat.le_refl _) x3).setCell (p := ⟨w.heap.size, 3, none⟩) (Nat.le_refl _) x4, hq.set x1 x2 x3 x4⟩
  have FIN := Lib.hid fin
  clear fin
  by_cases h1 : n < 0
  · have HE : Hid (errN n l = (1, 0)) := Lib.hid (if_pos h1)
    go_enter Try.func11, Try.ntmps11
    go_upto_region 2 with fail
    generalize w.alloc (.cells #[.int .i64 0, .slice none 0 0, .int .i64 0, .int .i64 0] 38) = W at *
    obtain ⟨⟨c0, c1, c2, c3⟩, f0, f1, f2, f3⟩ := HQ0.out.cells
    have hlt := HQ0.out.lt
    have HF := FIN.out W _ _ _ _ HB0.out HQ0.out (.int .i64 0) (.slice none 0 0) (.int .i64 1) (.int .i64 0)
    go_wp2
    obtain ⟨⟨d0, d1, d2, d3⟩, -⟩ := HF.out.2.cells
    exact bodyPost_ret (v := .agg #[.int .i64 0, .slice none 0 0, .int .i64 1, .int .i64 0]) (by simp [results, Try.results11, go_sem, d0, d1, d2, d3]) rfl ⟨HF.out.1, Or.inl ⟨by rw [HE.out]; decide, agg4 (by rw [HE.out]) (by rw [HE.out])⟩⟩
  by_cases h2 : n > 4096
  · have HE : Hid (errN n l = (3, 0)) := Lib.hid (by unfold errN; rw [if_neg h1, if_pos (Or.inl h2)])
    go_enter Try.func11, Try.ntmps11
    go_upto_region 4 with fail
    generalize w.alloc (.cells #[.int .i64 0, .slice none 0 0, .int .i64 0, .int .i64 0] 38) = W at *
    obtain ⟨⟨c0, c1, c2, c3⟩, f0, f1, f2, f3⟩ := HQ0.out.cells
    have hlt := HQ0.out.lt
    have HF := FIN.out W _ _ _ _ HB0.out HQ0.out (.int .i64 0) (.slice none 0 0) (.int .i64 3) (.int .i64 0)
    go_wp2
    obtain ⟨⟨d0, d1, d2, d3⟩, -⟩ := HF.out.2.cells
    exact bodyPost_ret (v := .agg #[.int .i64 0, .slice none 0 0, .int .i64 3, .int .i64 0]) (by simp [results, Try.results11, go_sem, d0, d1, d2, d3]) rfl ⟨HF.out.1, Or.inl ⟨by rw [HE.out]; decide, agg4 (by rw [HE.out]) (by rw [HE.out])⟩⟩
  by_cases h3 : (l.length : Int) > 1048576
  · omega
  have HE : Hid (errN n l = chkL n l 0) := Lib.hid (by unfold errN; rw [if_neg h1, if_neg (by omega)])
  have HL : Hid (l.length ≤ 1048576) := Lib.hid (by omega)
  have HC := Lib.hid (fun w h => refChecks_any n a c l HL.out w h)
  obtain ⟨y, z, hyz⟩ : ∃ y z, chkL n l 0 = (y, z) := ⟨_, _, rfl⟩
  rw [hyz] at HC HE
  by_cases hy : y = 0
  · have hz := chkL_zero (n := n) (l := l) (by rw [hyz]; exact hy)
    rw [hyz] at hz
    simp only [Prod.mk.injEq] at hz
    obtain ⟨rfl, rfl⟩ := hz
    obtain ⟨M, hm, hg, hml⟩ := merged HI.out (chkL_good (by rw [hyz])) HL.out
    have HM := Lib.hid hm
    clear hm hg hml hyz hy
    go_enter Try.func11, Try.ntmps11
    go_upto_region 5 with fail
    generalize w.alloc (.cells #[.int .i64 0, .slice none 0 0, .int .i64 0, .int .i64 0] 38) = W at *
    go_wp2_with fail
    refine (HC.out W (HR.out.over HB0.out (Nat.le_refl _))).mono ?_
    rintro e w1 ⟨rfl, hb1⟩
    have hb2 : Below W.heap.size W (w1.alloc (.cells #[.int .i64 0, .int .i64 0] 74)) := hb1.alloc hb1.size _
    have HB2 := Lib.hid (HB0.out.trans (hb2.mono HB0.out.size))
    have HQ2 := Lib.hid (HQ0.out.on hb2 HQ0.out.lt)
    have HT2 := Lib.hid (TwoAt.new w1 (.int .i64 0) (.int .i64 0) 74)
    have HX2 : Hid (∀ i, 4 ≤ i → (w1.alloc (.cells #[.int .i64 0, .int .i64 0] 74)).cell? ⟨w.heap.size, i, none⟩ = none) := Lib.hid fun i hi => (hb2.cell (p := ⟨w.heap.size, i, none⟩) HQ0.out.lt).trans (HX0.out i hi)
    clear hb1 hb2 HB0 HQ0 HC HX0
    go_upto_region 6 with fail
    generalize w1.alloc (.cells #[.int .i64 0, .int .i64 0] 74) = W2 at *
    generalize w1.heap.size = T at *
    obtain ⟨t0, t1, -, -⟩ := HT2.out
    have htl := HT2.out.lt
    go_wp2_with fail
    refine (refMerge_any a c l hl HI.out W2 (HR.out.over HB2.out (Nat.le_refl _))).mono ?_
    rintro e w3 ⟨hb3, ⟨hn, -⟩ | ⟨A, q, cap, hs, rfl, hr⟩⟩
    · rw [HM.out] at hn; cases hn
    obtain rfl : M = A := Option.some.inj (HM.out.symm.trans hs)
    have HB3 := Lib.hid (HB2.out.trans (hb3.mono HB2.out.size))
    have HQ3 := Lib.hid (HQ2.out.on hb3 HQ2.out.lt)
    have HR3 := Lib.hid hr
    have HX3 : Hid (∀ i, 4 ≤ i → w3.cell? ⟨w.heap.size, i, none⟩ = none) := Lib.hid fun i hi => (hb3.cell (p := ⟨w.heap.size, i, none⟩) HQ2.out.lt).trans (HX2.out i hi)
    clear hb3 hr hs HB2 HQ2 t0 t1 htl
    obtain ⟨⟨c0, c1, c2, c3⟩, f0, f1, f2, f3⟩ := HQ3.out.cells
    have hlt := HQ3.out.lt
    have HF := FIN.out w3 _ _ _ _ HB3.out HQ3.out (.int .i64 n) (.slice q M.length cap) (.int .i64 0) (.int .i64 0)
    have HR4 := Lib.hid (quad_apart HQ3.out HX3.out HR3.out (Nat.le_refl _))
    go_wp2
    obtain ⟨⟨d0, d1, d2, d3⟩, -⟩ := HF.out.2.cells
    exact bodyPost_ret (v := .agg #[.int .i64 n, .slice q M.length cap, .int .i64 0, .int .i64 0]) (by simp [results, Try.results11, go_sem, d0, d1, d2, d3]) rfl ⟨HF.out.1, Or.inr ⟨HE.out, M, q, cap, HM.out, rfl, HR4.out _ _ _ _⟩⟩
  · have HY := Lib.hid hy
    have t : (y != 0) = true := by simpa using hy
    clear hyz hy
    go_enter Try.func11, Try.ntmps11
    go_upto_region 5 with fail
    generalize w.alloc (.cells #[.int .i64 0, .slice none 0 0, .int .i64 0, .int .i64 0] 38) = W at *
    go_wp2_with fail
    refine (HC.out W (HR.out.over HB0.out (Nat.le_refl _))).mono ?_
    rintro e w1 ⟨rfl, hb1⟩
    have hb2 : Below W.heap.size W (w1.alloc (.cells #[.int .i64 y, .int .i64 z] 74)) := hb1.alloc hb1.size _
    have HB2 := Lib.hid (HB0.out.trans (hb2.mono HB0.out.size))
    have HQ2 := Lib.hid (HQ0.out.on hb2 HQ0.out.lt)
    have HT2 := Lib.hid (TwoAt.new w1 (.int .i64 y) (.int .i64 z) 74)
    clear hb1 hb2 HB0 HQ0 HC
    go_upto_region 6 with fail
    generalize w1.alloc (.cells #[.int .i64 y, .int .i64 z] 74) = W2 at *
    generalize w1.heap.size = T at *
    obtain ⟨t0, t1, -, -⟩ := HT2.out
    have htl := HT2.out.lt
    obtain ⟨⟨c0, c1, c2, c3⟩, f0, f1, f2, f3⟩ := HQ2.out.cells
    have hlt := HQ2.out.lt
    have HF := FIN.out W2 _ _ _ _ HB2.out HQ2.out (.int .i64 0) (.slice none 0 0) (.int .i64 y) (.int .i64 z)
    go_wp2
    obtain ⟨⟨d0, d1, d2, d3⟩, -⟩ := HF.out.2.cells
    exact bodyPost_ret (v := .agg #[.int .i64 0, .slice none 0 0, .int .i64 y, .int .i64 z]) (by simp [results, Try.results11, go_sem, d0, d1, d2, d3]) rfl ⟨HF.out.1, Or.inl ⟨by rw [HE.out]; exact HY.out, agg4 (by rw [HE.out]) (by rw [HE.out])⟩⟩
end Go.Proofs.Ytbankocbncpepaa
/- What both News answer, told in one form for a graph and for none. -/
namespace Go.Proofs.Ytbankocbncpepaa
open Go.RowKit Go.ChangeShapes EdPure NtPure NumPure
/-- A graph, or why there is none. -/
def Kind (n : Int) (l : List Ed) (p : Option Addr) (N : Nat) (M : List Ed) : Prop :=
  (errN n l).1 ≠ 0 ∧ p = none ∧ N = 0 ∧ M = [] ∨ errN n l = (0, 0) ∧ (∃ g, p = some ⟨g, 0, none⟩) ∧ n = N ∧ mergeE l = some M
def NewU (n : Int) (l : List Ed) (w : World) (e : Ending) (w' : World) : Prop :=
  Below w.heap.size w w' ∧ ∃ (p : Option Addr) (N : Nat) (M : List Ed), e = .returned (.tuple #[.pointer p, .int .i64 (errN n l).1, .int .i64 (errN n l).2]) ∧ NetAt p N M w' ∧ (N ≤ 4096 ∧ M.length ≤ 1048576 ∧ GoodN N M) ∧ Kind n l p N M
theorem GoodN.nil (n : Int) : GoodN n [] := ⟨GoodM.nil, by simp, by simp [allW]⟩
theorem newU_any (n : Int) (a : Option Addr) (c : Nat) (l : List Ed) (hI : InL l) (w : World) (hR : ReadsE w.heap.size w a l) :
    Calls Try.prog 7 #[.int .i64 n, .slice a l.length c] w fun e w' => NewU n l w e w' := by
  refine (newNet_any n a c l hI w hR).mono ?_
  rintro e w' ⟨hb, ⟨hne, rfl⟩ | ⟨hz, N, M, g, rfl, hN, hg, h1, h2, hm, rfl, hn⟩⟩
  · exact ⟨hb, none, 0, [], rfl, NetAt.nil _, ⟨by omega, by simp, GoodN.nil _⟩, Or.inl ⟨hne, rfl, rfl, rfl⟩⟩
  · exact ⟨hb, some ⟨g, 0, none⟩, N, M, by rw [hz], hn, ⟨hN, by omega, hg⟩, Or.inr ⟨hz, ⟨g, rfl⟩, rfl, hm⟩⟩
def RefU (n : Int) (l : List Ed) (w : World) (e : Ending) (w' : World) : Prop :=
  Below w.heap.size w w' ∧ ∃ (x : Int) (q : Option Addr) (c : Nat) (M : List Ed), e = .returned (.agg #[.int .i64 x, .slice q M.length c, .int .i64 (errN n l).1, .int .i64 (errN n l).2]) ∧ ReadsE w'.heap.size w' q M ∧
    ((errN n l).1 ≠ 0 ∧ x = 0 ∧ M = [] ∨ errN n l = (0, 0) ∧ x = n ∧ mergeE l = some M)
theorem refU_any (n : Int) (a : Option Addr) (c : Nat) (l : List Ed) (hl : l.length ≤ 100000) (hI : InL l) (w : World) (hR : ReadsE w.heap.size w a l) :
    Calls Try.prog 11 #[.int .i64 n, .slice a l.length c] w fun e w' => RefU n l w e w' := by
  refine (refNewN_any n a c l hl hI w hR).mono ?_
  rintro e w' ⟨hb, ⟨hne, rfl⟩ | ⟨hz, M, q, c', hm, rfl, hr⟩⟩
  · exact ⟨hb, 0, none, 0, [], rfl, Or.inl rfl, Or.inl ⟨hne, rfl, rfl⟩⟩
  · exact ⟨hb, n, q, c', M, by rw [hz], hr, Or.inr ⟨hz, rfl, hm⟩⟩
end Go.Proofs.Ytbankocbncpepaa
/- An edge by value, a list of edges, as a statement's frame tells of them. -/
namespace Go.Proofs.Ytbankocbncpepaa
open Go.RowKit Go.ChangeShapes Go.WideShapes EdPure
def EdIn (W : World) (a : Option Addr) (l : List Ed) : Prop := InL l ∧ ReadsE W.heap.size W a l
theorem arr3 {α : Type} {cs : Array α} (h : cs.size = 3) : ∃ c0 c1 c2, cs = #[c0, c1, c2] := by
  obtain ⟨l⟩ := cs
  match l, h with
  | [c0, c1, c2], _ => exact ⟨c0, c1, c2, rfl⟩
set_option maxRecDepth 20000 in
theorem open_edge {H : Type} {enc : TypeId × Value → H} {W : World} {base : Nat} {sp : Nat → Bool} {held : Bool} {r : Reach} {b0 : Nat} {v : Value} {d : DataW H} {ps : List MemPlace}
    (hv : Value.okWide Try.prog W r b0 58 v) (h : DataW.Trod enc Try.prog W base sp held 58 v d ps) :
    ∃ e : Ed, v = encE e ∧ InE e := by
  have hu := Try.underlying58
  have hC : Try.prog.cellsOf 58 = 3 := by kernel_rfl
  have ci : Try.prog.cellsOf 3 = 1 := by kernel_rfl
  have ci2 : Try.prog.cellsOf 2 = 1 := by kernel_rfl
  simp only [Value.okWide, hu] at hv
  obtain ⟨cs, rfl, hsz, _⟩ := hv
  obtain ⟨c0, c1, c2, rfl⟩ := arr3 (hsz.trans hC)
  obtain ⟨fuel, hf⟩ := h
  obtain ⟨xs, k, hk, hxy, _, hxl, hfl⟩ := DataW.trod_struct hu hf
  match xs, hxl with
  | [y0, y1, y2], _ =>
    have g0 := hfl 0 _ rfl
    have g1 := hfl 1 _ rfl
    have g2 := hfl 2 _ rfl
    simp [ci, ci2, Value.cells] at g0 g1 g2
    obtain ⟨n0, q0, -, w0⟩ := DataW.trod_int (t := 3) Try.underlying3 g0
    obtain ⟨n1, q1, -, w1⟩ := DataW.trod_int (t := 3) Try.underlying3 g1
    obtain ⟨n2, q2, -, w2⟩ := DataW.trod_int (t := 2) Try.underlying2 g2
    have q0' : c0 = .int .i64 n0 := by simpa using q0
    have q1' : c1 = .int .i64 n1 := by simpa using q1
    have q2' : c2 = .int .i64 n2 := by simpa using q2
    subst q0' q1' q2'
    exact ⟨(n0, n1, n2), rfl, bounds_i64 w0, bounds_i64 w1, bounds_i64 w2⟩
end Go.Proofs.Ytbankocbncpepaa
/- An argument []int as a list of numbers in memory. -/
namespace Go.Proofs.Ytbankocbncpepaa
open Go.RowKit Go.ChangeShapes Go.WideShapes Go.ChangeAt
theorem open_intsL {H : Type} {enc : TypeId × Value → H} {W : World} {base fuel : Nat} {a : Option Addr} {len cap : Nat} {x : DataW H × List MemPlace}
    (hf : DataW.trod enc Try.prog W base (fun _ => true) true fuel 23 (Value.slice a len cap).cells.toList = some x) :
    ∃ l : List Int, l.length = len ∧ ReadsL encZ W.heap.size W a l ∧ l.length ≤ maxLen := by
  obtain ⟨z0, w0⟩ : ∃ zs, IsRow .i64 W a len cap zs := by
    rcases open_ints Try.underlying23 Try.underlying3 (by kernel_rfl) hf with ⟨hcs, _⟩ | ⟨x, l, c, zs, hcs, _, hl, hm, hz, _, hcell, hwz⟩
    · simp [Value.cells] at hcs
      obtain ⟨rfl, rfl, rfl⟩ := hcs
      exact ⟨[], .inl ⟨rfl, rfl, rfl, rfl⟩⟩
    · simp [Value.cells] at hcs
      obtain ⟨rfl, rfl, rfl⟩ := hcs
      exact ⟨zs, .inr ⟨_, rfl, hl, hm, by simpa using hz, hcell, hwz⟩⟩
  obtain ⟨l, h1, -, h3, h4, -⟩ := row_reads w0
  exact ⟨l, h1, h3, by omega⟩
/-- And no more than there is room for. -/
theorem open_intsLC {H : Type} {enc : TypeId × Value → H} {W : World} {base fuel : Nat} {a : Option Addr} {len cap : Nat} {x : DataW H × List MemPlace}
    (hf : DataW.trod enc Try.prog W base (fun _ => true) true fuel 23 (Value.slice a len cap).cells.toList = some x) :
    ∃ l : List Int, l.length = len ∧ ReadsL encZ W.heap.size W a l ∧ l.length ≤ maxLen ∧ l.length ≤ cap := by
  obtain ⟨z0, w0⟩ : ∃ zs, IsRow .i64 W a len cap zs := by
    rcases open_ints Try.underlying23 Try.underlying3 (by kernel_rfl) hf with ⟨hcs, _⟩ | ⟨x, l, c, zs, hcs, _, hl, hm, hz, _, hcell, hwz⟩
    · simp [Value.cells] at hcs
      obtain ⟨rfl, rfl, rfl⟩ := hcs
      exact ⟨[], .inl ⟨rfl, rfl, rfl, rfl⟩⟩
    · simp [Value.cells] at hcs
      obtain ⟨rfl, rfl, rfl⟩ := hcs
      exact ⟨zs, .inr ⟨_, rfl, hl, hm, by simpa using hz, hcell, hwz⟩⟩
  obtain ⟨l, h1, -, h3, h4, h5, -⟩ := row_reads w0
  exact ⟨l, h1, h3, by omega, by omega⟩
end Go.Proofs.Ytbankocbncpepaa
