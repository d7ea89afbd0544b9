/- Contract of New. -/
import Derived.Test.YtbankocbncpepaaNtStars
import Derived.Test.YtbankocbncpepaaNtAsk
import Derived.Test.YtbankocbncpepaaNtErr
import Derived.Test.YtbankocbncpepaaEdMerge
namespace Go.Proofs.Ytbankocbncpepaa
open Go.RowKit Go.ChangeShapes EdPure NtPure NumPure
def NewOut (n : Int) (l : List Ed) (w : World) (e : Ending) (w' : World) : Prop :=
  Below w.heap.size w w' ∧ (((errN n l).1 ≠ 0 ∧ e = .returned (.tuple #[.pointer none, .int .i64 (errN n l).1, .int .i64 (errN n l).2])) ∨
    (errN n l = (0, 0) ∧ ∃ (N : Nat) (M : List Ed) (g : Nat), n = N ∧ N ≤ 4096 ∧ GoodN N M ∧ M.length ≤ l.length ∧ l.length ≤ 1048576 ∧ mergeE l = some M ∧ e = .returned (.tuple #[.pointer (some ⟨g, 0, none⟩), .int .i64 0, .int .i64 0]) ∧ NetAt (some ⟨g, 0, none⟩) N M w'))
theorem ret_pii {p : Option Addr} {a b c d : Int} (h1 : a = b) (h2 : c = d) : Ending.returned (.tuple #[.pointer p, .int .i64 a, .int .i64 c]) = .returned (.tuple #[.pointer p, .int .i64 b, .int .i64 d]) := by rw [h1, h2]
set_option maxRecDepth 100000 in
set_option maxHeartbeats 1000000 in
theorem newNet_any (n : Int) (a : Option Addr) (c : Nat) (l : List Ed) (hI : InL l) (w : World) (hR : ReadsE w.heap.size w a l) :
    Calls Try.prog 7 #[.int .i64 n, .slice a l.length c] w fun e w' => NewOut n l w e w' := by
  have HR := Lib.hid hR
  have HI := Lib.hid hI
  clear hR hI
  by_cases h1 : n < 0
  · have HE : Hid (errN n l = (1, 0)) := Lib.hid (if_pos h1)
    go_enter Try.func7, Try.ntmps7
    go_wp2
    go_ret3
    exact ⟨Below.refl _ _, Or.inl ⟨by rw [HE.out]; decide, ret_pii (by rw [HE.out]) (by rw [HE.out])⟩⟩
  by_cases h2 : n > 4096
  · have HE : Hid (errN n l = (3, 0)) := Lib.hid (by unfold errN; rw [if_neg h1, if_pos (Or.inl h2)])
    go_enter Try.func7, Try.ntmps7
    go_wp2
    go_ret3
    exact ⟨Below.refl _ _, Or.inl ⟨by rw [HE.out]; decide, ret_pii (by rw [HE.out]) (by rw [HE.out])⟩⟩
  by_cases h3 : (l.length : Int) > 1048576
  · have HE : Hid (errN n l = (3, 0)) := Lib.hid (by unfold errN; rw [if_neg h1, if_pos (Or.inr (by omega))])
    go_enter Try.func7, Try.ntmps7
    go_wp2
    go_ret3
    exact ⟨Below.refl _ _, Or.inl ⟨by rw [HE.out]; decide, ret_pii (by rw [HE.out]) (by rw [HE.out])⟩⟩
  have HE : Hid (errN n l = chkL n l 0) := Lib.hid (by unfold errN; rw [if_neg h1, if_neg (by omega)])
  have HL : Hid (l.length ≤ 1048576) := Lib.hid (by omega)
  have HC := Lib.hid (checks_any n a c l HL.out w HR.out)
  obtain ⟨y, z, hyz⟩ : ∃ y z, chkL n l 0 = (y, z) := ⟨_, _, rfl⟩
  rw [hyz] at HC HE
  by_cases hy : y = 0
  · have hz := chkL_zero (n := n) (l := l) (by rw [hyz]; exact hy)
    rw [hyz] at hz
    simp only [Prod.mk.injEq] at hz
    obtain ⟨rfl, rfl⟩ := hz
    obtain ⟨M, hm, hg, hml⟩ := merged HI.out (chkL_good (by rw [hyz])) HL.out
    obtain ⟨N, rfl⟩ : ∃ N : Nat, n = N := ⟨n.toNat, by omega⟩
    have hN : N ≤ 4096 := by omega
    have HM := Lib.hid (And.intro hm (And.intro hg hml))
    clear hm hg hml hyz hy
    go_enter Try.func7, Try.ntmps7
    go_wp2_with fail
    refine HC.out.mono ?_
    rintro e w1 ⟨rfl, hb1⟩
    have HB1 := Lib.hid hb1
    have HR1 := Lib.hid (HR.out.over hb1 (Nat.le_refl _))
    clear hb1 HC HR
    go_wp2_with fail
    refine (merge_any a c l HL.out HI.out w1 HR1.out).mono ?_
    rintro e w2 ⟨hb2, ⟨hn, -⟩ | ⟨A, q, cap, hs, rfl, hr⟩⟩
    · rw [HM.out.1] at hn; cases hn
    obtain rfl : M = A := Option.some.inj (HM.out.1.symm.trans hs)
    have HB2 := Lib.hid (HB1.out.trans (hb2.mono HB1.out.size))
    have HR2 := Lib.hid hr
    have HML : Hid (M.length ≤ 1048576) := Lib.hid (Nat.le_trans HM.out.2.2 HL.out)
    clear hb2 hr hs HB1 HR1
    go_wp2_with fail
    refine (starsOf_any N hN q cap M HM.out.2.1 HML.out w2 HR2.out).mono ?_
    rintro e w3 ⟨hb3, b, rfl, hst⟩
    have hb4 : ∀ o, Below w3.heap.size w3 (w3.alloc o) := fun o => (Below.refl _ _).alloc (Nat.le_refl _) _
    have HB4 := Lib.hid (fun o => (HB2.out.trans (hb3.mono HB2.out.size)).trans ((hb4 o).mono (Nat.le_trans HB2.out.size hb3.size)))
    have HR4 := Lib.hid (fun o => (HR2.out.over hb3 (Nat.le_refl _)).over (hb4 o) (Nat.le_refl _))
    have HS4 := Lib.hid (fun o => hst.over (hb4 o) (Nat.le_refl _))
    clear hb3 hst hb4 HB2 HR2
    go_wp2
    go_ret3
    exact ⟨HB4.out _, Or.inr ⟨HE.out, N, M, w3.heap.size, rfl, hN, HM.out.2.1, HM.out.2.2, HL.out, HM.out.1, rfl, Or.inr ⟨w3.heap.size, some ⟨b, 0, none⟩, N, q, cap, rfl, by simp, by simp, by simp, HR4.out _, HS4.out _⟩⟩⟩
  · have HY := Lib.hid hy
    have t : (y != 0) = true := by simpa using hy
    clear hyz hy
    go_enter Try.func7, Try.ntmps7
    go_wp2_with (first | (go_at_call 24; refine HC.out.mono ?_; rintro e w1 ⟨rfl, hb1⟩; have HB1 := Lib.hid hb1; clear hb1))
    go_ret3
    exact ⟨HB1.out, Or.inl ⟨by rw [HE.out]; exact HY.out, ret_pii (by rw [HE.out]) (by rw [HE.out])⟩⟩
end Go.Proofs.Ytbankocbncpepaa
