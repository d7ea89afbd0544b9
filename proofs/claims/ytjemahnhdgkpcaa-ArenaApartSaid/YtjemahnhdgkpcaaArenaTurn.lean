/- Contracts of Set, Free, Give of an arena, at every argument. -/
import Derived.Test.YtjemahnhdgkpcaaArenaStep
namespace Go.Proofs.Ytjemahnhdgkpcaa
open Go.RowKit Go.ChangeShapes ArenaPure
theorem set_nil (n x : Int) (w : World) :
    Calls Try.prog 12 #[.pointer none, .int .i64 n, .int .i64 x] w fun e w' => e = .returned (.bool false) ∧ w = w' := by
  go_enter Try.func12, Try.ntmps12
  go_wp2_with (first | (go_at_call 21; refine (has_nil n _).mono ?_; rintro e w' ⟨rfl, rfl⟩))
  go_ret
  exact ⟨rfl, rfl⟩
theorem set_any (O : Nat → Prop) (b N : Nat) (S : St) (n x : Int) (w : World) (h : ArAt O b w N S) :
    Calls Try.prog 12 #[.pointer (some ⟨b, 0, none⟩), .int .i64 n, .int .i64 x] w fun e w' => e = .returned (.bool (hasB S n)) ∧ Turn O w w' ∧ ArAt O b w' N (setS S n x) := by
  have HA := Lib.hid h
  cases hh : hasB S n
  · have HF := Lib.hid hh
    have HS : Hid (setS S n x = S) := Lib.hid (by unfold setS; rw [hh]; exact if_neg (by decide))
    clear h hh
    go_enter Try.func12, Try.ntmps12
    go_wp2_with (first | (go_at_call 21; refine (has_any O b N S n _ HA.out).mono ?_; rintro e w' ⟨rfl, rfl⟩; rw [HF.out]))
    go_ret
    exact ⟨rfl, Turn.refl _ _, by rw [HS.out]; exact HA.out⟩
  · have HF := Lib.hid hh
    obtain ⟨k, rfl, hk, hy⟩ := has_yes hh
    have HS : Hid (setS S (k : Int) x = layS S k x) := Lib.hid (by unfold setS; rw [hh, if_pos rfl, Int.toNat_natCast])
    obtain ⟨g, K, cap, c1, hkK, hb, hg, ⟨u, e1⟩, f1, ht, ha⟩ := h.lay hy x
    have HT := Lib.hid (And.intro ht ha)
    have a3 : (k : Int) < (K : Int) := by omega
    have a4 : (0 : Int) ≤ (k : Int) := by omega
    clear h hh hy hk ht ha hkK
    go_enter Try.func12, Try.ntmps12
    go_wp2_with (first | (go_at_call 21; refine (has_any O b N S _ _ HA.out).mono ?_; rintro e w' ⟨rfl, rfl⟩; rw [HF.out]))
    go_ret
    exact ⟨rfl, HT.out.1, by rw [HS.out]; exact HT.out.2⟩
theorem free_nil (n : Int) (w : World) :
    Calls Try.prog 10 #[.pointer none, .int .i64 n] w fun e w' => e = .returned (.tuple #[.int .i64 0, .bool false]) ∧ w = w' := by
  go_enter Try.func10, Try.ntmps10
  go_wp2_with (first | (go_at_call 14; refine (at_nil n _).mono ?_; rintro e w' ⟨rfl, rfl⟩))
  go_ret2
  exact ⟨rfl, rfl⟩
theorem drop_live {S : St} {k : Nat} (h : S.I[k]? = some true) : liveN S = liveN (dropS S k) + 1 := by
  have := count_lay h false
  unfold liveN dropS
  simp at this
  exact this.symm
set_option maxHeartbeats 1000000 in
theorem free_any (O : Nat → Prop) (b N : Nat) (S : St) (n : Int) (w : World) (h : ArAt O b w N S) :
    Calls Try.prog 10 #[.pointer (some ⟨b, 0, none⟩), .int .i64 n] w fun e w' => e = .returned (.tuple #[.int .i64 (atV S n), .bool (hasB S n)]) ∧ Turn O w w' ∧ ArAt O b w' N (freeS S n) := by
  have HA := Lib.hid h
  cases hh : hasB S n
  · have HF := Lib.hid hh
    have HS : Hid (freeS S n = S) := Lib.hid (by unfold freeS; rw [hh]; exact if_neg (by decide))
    clear h hh
    go_enter Try.func10, Try.ntmps10
    go_wp2_with (first | (go_at_call 14; refine (at_any O b N S n _ HA.out).mono ?_; rintro e w' ⟨rfl, rfl⟩; rw [HF.out]))
    go_ret2
    exact ⟨rfl, Turn.refl _ _, by rw [HS.out]; exact HA.out⟩
  · have HF := Lib.hid hh
    obtain ⟨k, rfl, hk, hy⟩ := has_yes hh
    have HS : Hid (freeS S (k : Int) = dropS S k) := Lib.hid (by unfold freeS; rw [hh, if_pos rfl, Int.toNat_natCast])
    have hN := h.1
    have hlv := live_le h.2.1
    have hd := drop_live hy
    have HY := Lib.hid hy
    clear h hh hk hy
    go_enter Try.func10, Try.ntmps10
    go_wp2_with (first | (go_at_call 14; refine (at_any O b N S _ _ HA.out).mono ?_; rintro e w' ⟨rfl, rfl⟩; rw [HF.out]))
    have HB : Hid (ArAt O b (w.drewN 1) N S) := Lib.hid (HA.out.drawn 1)
    refine wp_region_still_tail 11 (by kernel_rfl) (by kernel_rfl) ?_
    change wpStill _ _ (w.drewN 1) _ _ _
    change wpStill _ _ _ (fun a' => wpList _ _ _ _ _ (w.drewN 1)) _ _
    obtain ⟨g, K, cap, f, ⟨c1, c3⟩, hkK, hb, hg, hbg, ⟨u0, u1, u2, e0, e1, e2⟩, ⟨f0, f1, f2⟩, a1, a2, h4, ht, ha⟩ := HB.out.drop HY.out
    have HT : Hid (Turn O w _ ∧ _) := Lib.hid (And.intro ht ha)
    have H4 := Lib.hid h4
    have a3 : (k : Int) < (K : Int) := by omega
    have a4 : (0 : Int) ≤ (k : Int) := by omega
    clear ht ha h4 hkK HA HB
    generalize w.drewN 1 = W1 at *
    simp only [List.take_succ_cons, List.take_zero, List.drop_succ_cons, List.drop_zero]
    repeat still_step
    refine wpStill_nil ?_
    go_upto_region 4 with fail
    have hL : ((liveN (dropS S k) : Nat) : Int) = (liveN S : Int) - 1 := by omega
    rw [hL] at HT
    simp only [lay3] at HT H4
    clear e0 e1 e2 f0 f1 f2 c1 c3 hL hd
    generalize ((W1.setCell ⟨g, k * 3, none⟩ (.int .i64 0)).setCell ⟨g, k * 3 + 1, none⟩ (.bool false)).setCell ⟨g, k * 3 + 2, none⟩ (.int .i64 f) = W2 at *
    obtain ⟨⟨c0, c1, c2, c3⟩, f0, f1, f2, f3⟩ := H4.out.cells
    have hb2 := H4.out.lt
    clear hg hb
    generalize liveN S = L at *
    go_wp2
    go_ret2
    exact ⟨rfl, HT.out.1, by rw [HS.out]; exact HT.out.2⟩
end Go.Proofs.Ytjemahnhdgkpcaa
