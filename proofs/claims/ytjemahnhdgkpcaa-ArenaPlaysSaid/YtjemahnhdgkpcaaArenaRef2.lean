/- The document's answers of layer 11: New, At, Set, Live. -/
import Derived.Test.YtjemahnhdgkpcaaArenaRef
namespace Go.Proofs.Ytjemahnhdgkpcaa
open Go.RowKit Go.ChangeShapes ArenaPure
def RfAt (O : Nat → Prop) (b : Nat) (w : World) (N : Nat) (S : St) : Prop := N ≤ 1048576 ∧ GoodS N S ∧ RfM O b w N S.X S.I S.F
section
variable {O : Nat → Prop} {b : Nat} {w w' : World} {N : Nat} {S : St}
theorem RfAt.lt (h : RfAt O b w N S) : ∀ k, O k → b ≤ k ∧ k < w.heap.size := h.2.2.lt
theorem RfAt.past {O' : Nat → Prop} (h : RfAt O b w N S) (ht : Turn O' w w') (hd : ∀ k, O k → ¬ O' k) : RfAt O b w' N S := ⟨h.1, h.2.1, h.2.2.past ht hd⟩
theorem RfAt.keep (h : RfAt O b w N S) (hb : Below w.heap.size w w') : RfAt O b w' N S := ⟨h.1, h.2.1, h.2.2.keep hb⟩
end
theorem newRef_any (n : Int) (w : World) :
    Calls Try.prog 7 #[.int .i64 n] w fun e w' => e = .returned (.pointer (some ⟨w.heap.size, 0, none⟩)) ∧ Below w.heap.size w w' ∧ w.heap.size < w'.heap.size ∧ RfAt (fun k => k = w.heap.size) w.heap.size w' (roomN n) emptyS := by
  have hlt : ∀ T, w.heap.size < (w.alloc (.cells #[.int .i64 ((roomN n : Nat) : Int), .slice none 0 0, .slice none 0 0, .slice none 0 0] T)).heap.size := fun T => by simp
  have HA : Hid (∀ T, Below w.heap.size w (w.alloc (.cells #[.int .i64 ((roomN n : Nat) : Int), .slice none 0 0, .slice none 0 0, .slice none 0 0] T)) ∧ w.heap.size < (w.alloc (.cells #[.int .i64 ((roomN n : Nat) : Int), .slice none 0 0, .slice none 0 0, .slice none 0 0] T)).heap.size ∧
      RfAt (fun k => k = w.heap.size) w.heap.size (w.alloc (.cells #[.int .i64 ((roomN n : Nat) : Int), .slice none 0 0, .slice none 0 0, .slice none 0 0] T)) (roomN n) emptyS) :=
    Lib.hid fun T => ⟨(Below.refl _ w).alloc (Nat.le_refl _) _, hlt T, roomN_le n, good_empty _, rfM_new w _ T⟩
  clear hlt
  by_cases a : n < 0
  · have e : roomN n = 0 := by unfold roomN; omega
    rw [e] at HA ⊢
    have a1 : n ≤ 1048576 := by omega
    have a2 : n < 1048576 := by omega
    have a3 : ¬ 0 < n := by omega
    have a4 : ¬ 0 ≤ n := by omega
    have a5 : n ≤ 0 := by omega
    have a6 : ¬ 1048576 < n := by omega
    have a7 : ¬ 1048576 ≤ n := by omega
    go_enter Try.func7, Try.ntmps7
    go_wp2
    go_ret
    exact ⟨rfl, HA.out _⟩
  · obtain ⟨k, rfl⟩ := Int.eq_ofNat_of_zero_le (by omega : 0 ≤ n)
    by_cases b : k < 1048576
    · have e : roomN (k : Int) = k := by unfold roomN; omega
      rw [e] at HA ⊢
      by_cases c : k = 0
      · subst c
        go_enter Try.func7, Try.ntmps7
        go_wp2
        go_ret
        exact ⟨rfl, HA.out _⟩
      have a1 : ¬ (k : Int) ≤ 0 := by omega
      have a3 : 0 < (k : Int) := by omega
      have b1 : (k : Int) < 1048576 := by omega
      have b2 : (k : Int) ≤ 1048576 := by omega
      have b3 : ¬ (1048576 : Int) < (k : Int) := by omega
      have b4 : ¬ (1048576 : Int) ≤ (k : Int) := by omega
      have a4 : (0 : Int) ≤ (k : Int) := by omega
      go_enter Try.func7, Try.ntmps7
      go_wp2
      go_ret
      exact ⟨rfl, HA.out _⟩
    · have e : roomN (k : Int) = 1048576 := by unfold roomN; omega
      rw [e] at HA ⊢
      by_cases c : k = 1048576
      · subst c
        go_enter Try.func7, Try.ntmps7
        go_wp2
        go_ret
        exact ⟨rfl, HA.out _⟩
      have a1 : ¬ (k : Int) ≤ 0 := by omega
      have a3 : 0 < (k : Int) := by omega
      have b1 : ¬ (k : Int) < 1048576 := by omega
      have b2 : ¬ (k : Int) ≤ 1048576 := by omega
      have b3 : (1048576 : Int) < (k : Int) := by omega
      have b4 : (1048576 : Int) ≤ (k : Int) := by omega
      have a4 : (0 : Int) ≤ (k : Int) := by omega
      go_enter Try.func7, Try.ntmps7
      go_wp2
      go_ret
      exact ⟨rfl, HA.out _⟩
set_option maxHeartbeats 1000000 in
theorem atRef_any (O : Nat → Prop) (b N : Nat) (S : St) (n : Int) (w : World) (h : RfAt O b w N S) :
    Calls Try.prog 15 #[.pointer (some ⟨b, 0, none⟩), .int .i64 n] w fun e w' => e = .returned (.agg #[.int .i64 (atV S n), .bool (hasB S n)]) ∧ Below w.heap.size w w' := by
  have hl := h.2.1.1
  have hN := h.1
  have hIN := h.2.1.2.1
  by_cases a : n < 0
  · have HF := Lib.hid (has_low (S := S) a)
    have HV := Lib.hid (at_no HF.out)
    have a1 : (0 : Int) > n := by omega
    clear h hl hN hIN
    go_enter Try.func15, Try.ntmps15
    go_wp2
    refine bodyPost_ret (v := .agg #[.int .i64 0, .bool false]) (by simp [results, Try.results15, go_sem]) rfl ⟨agg_ib HV.out.symm HF.out.symm, (Below.refl _ _).alloc (Nat.le_refl _) _⟩
  · obtain ⟨k, rfl⟩ := Int.eq_ofNat_of_zero_le (by omega : 0 ≤ n)
    have a1 : ¬ (k : Int) < 0 := a
    have a0 : (0 : Int) ≤ (k : Int) := by omega
    by_cases a2 : k < S.X.length
    · obtain ⟨gx, cx, gi, ci, ⟨c1, c2⟩, ⟨hb, hgx, hgi⟩, e1, e2⟩ := h.2.2.get hl a2
      have a3 : (k : Int) < (S.X.length : Int) := by omega
      have a4 : ¬ (k : Int) ≥ (S.X.length : Int) := by omega
      have hH : hasB S (k : Int) = S.I.getD k false := by
        rw [has_of (by omega), List.getD_eq_getElem?_getD, List.getElem?_eq_getElem (by omega)]
        rfl
      have HF := Lib.hid hH
      have HV : Hid (atV S (k : Int) = if S.I.getD k false = true then S.X.getD k 0 else 0) := Lib.hid (by unfold atV; rw [hH, Int.toNat_natCast])
      have hK : S.X.length ≤ 1048576 := by omega
      clear h hl hIN a hH a2
      generalize S.X.length = K at *
      generalize S.X.getD k 0 = x at *
      generalize S.I.getD k false = u at *
      cases u
      · go_enter Try.func15, Try.ntmps15
        go_wp2
        refine bodyPost_ret (v := .agg #[.int .i64 0, .bool false]) (by simp [results, Try.results15, go_sem]) rfl ⟨agg_ib (by rw [HV.out]; rfl) HF.out.symm, (Below.refl _ _).alloc (Nat.le_refl _) _⟩
      · go_enter Try.func15, Try.ntmps15
        go_wp2
        refine bodyPost_ret (v := .agg #[.int .i64 x, .bool true]) (by simp [results, Try.results15, go_sem]) rfl ⟨agg_ib (by rw [HV.out]; rfl) HF.out.symm, (Below.refl _ _).alloc (Nat.le_refl _) _⟩
    · have HF := Lib.hid (has_past (S := S) (n := (k : Int)) (by omega))
      have HV := Lib.hid (at_no HF.out)
      obtain ⟨q, c, c1, hb, -, -⟩ := h.2.2.moreX
      have a4 : (k : Int) ≥ (S.X.length : Int) := by omega
      have hK : S.X.length ≤ 1048576 := by omega
      clear h hl hIN a a2
      generalize S.X.length = K at *
      go_enter Try.func15, Try.ntmps15
      go_wp2
      refine bodyPost_ret (v := .agg #[.int .i64 0, .bool false]) (by simp [results, Try.results15, go_sem]) rfl ⟨agg_ib HV.out.symm HF.out.symm, (Below.refl _ _).alloc (Nat.le_refl _) _⟩
theorem field_ok (V : Int) (B : Bool) (w : World) : (Instr.field 31 (.agg #[.int .i64 V, .bool B]) 1).run Try.prog w = .ok (.bool B) w := by
  first | rfl | kernel_rfl
theorem setRef_any (O : Nat → Prop) (b N : Nat) (S : St) (n x : Int) (w : World) (h : RfAt O b w N S) :
    Calls Try.prog 13 #[.pointer (some ⟨b, 0, none⟩), .int .i64 n, .int .i64 x] w fun e w' => e = .returned (.bool (hasB S n)) ∧ Turn O w w' ∧ RfAt O b w' N (setS S n x) := by
  have HA := Lib.hid h
  have hfd := field_ok
  cases hh : hasB S n
  · have HF := Lib.hid hh
    have HS : Hid (setS S n x = S) := Lib.hid (by unfold setS; rw [hh]; exact if_neg (by decide))
    clear h hh
    go_enter Try.func13, Try.ntmps13
    go_wp2_with (first | (go_at_call 15; refine (atRef_any O b N S n _ HA.out).mono ?_; rintro e w1 ⟨rfl, hb1⟩; have HB := Lib.hid hb1; clear hb1; rw [HF.out]))
    go_ret
    exact ⟨rfl, Turn.ofBelow HB.out, by rw [HS.out]; exact HA.out.keep HB.out⟩
  · have HF := Lib.hid hh
    obtain ⟨k, rfl, hk, hy⟩ := has_yes hh
    have HS : Hid (setS S (k : Int) x = layS S k x) := Lib.hid (by unfold setS; rw [hh, if_pos rfl, Int.toNat_natCast])
    have hlt : k < S.X.length := by have := h.2.1.1; omega
    have hK : S.X.length ≤ 1048576 := by have := h.2.1; have h1 := h.1; obtain ⟨e1, e2, -⟩ := this; omega
    have a3 : (k : Int) < (S.X.length : Int) := by omega
    have a4 : (0 : Int) ≤ (k : Int) := by omega
    clear h hh hy hk
    go_enter Try.func13, Try.ntmps13
    go_wp2_with fail
    refine (atRef_any O b N S _ _ HA.out).mono ?_
    rintro e w1 ⟨rfl, hb1⟩
    rw [HF.out]
    have HB := Lib.hid hb1
    have HA1 := Lib.hid (HA.out.keep hb1)
    clear hb1 HA
    obtain ⟨g, cap, ⟨c1, hb, hg, -⟩, ⟨u, e1⟩, f1, ht, hr⟩ := HA1.out.2.2.layX hlt x
    have HT := Lib.hid (And.intro ht hr)
    clear ht hr
    go_wp2
    go_ret
    exact ⟨rfl, (Turn.ofBelow HB.out).trans HT.out.1 (fun _ e => Or.inl e), by rw [HS.out]; exact ⟨HA1.out.1, good_lay HA1.out.2.1 k x, HT.out.2⟩⟩
theorem liveRef_any (O : Nat → Prop) (b N : Nat) (S : St) (w : World) (h : RfAt O b w N S) :
    Calls Try.prog 16 #[.pointer (some ⟨b, 0, none⟩)] w fun e w' => ∃ v, e = .returned v ∧ ListOut (liveL S) w w' v := by
  have hl := h.2.1.1
  have hIN := h.2.1.2.1
  have hN := h.1
  have hcs : S.X.length ≤ 1048576 := by omega
  obtain ⟨q, c, c1, hb, -, -⟩ := h.2.2.moreX
  obtain ⟨i, hi1, hi2, hi3, hi4⟩ := info_int
  have HK : Hid (liveL S = liveUp S S.X.length) := Lib.hid (by rw [hl]; rfl)
  have HC : Hid (∀ W, Below w.heap.size w W → ∀ k, k < S.X.length → ∃ gi ci u, W.cell? ⟨b, 2, none⟩ = some (.slice (some ⟨gi, 0, none⟩) S.X.length ci) ∧ gi < W.heap.size ∧ W.cell? ⟨gi, k, none⟩ = some (.bool u) ∧ S.I[k]? = some u) := Lib.hid fun W hB k hk => by
    obtain ⟨gx, cx, gi, ci, ⟨-, e2⟩, ⟨hb, -, hgi⟩, -, e4⟩ := (h.2.2.keep hB).get hl hk
    exact ⟨gi, ci, _, e2, hgi, e4, by rw [List.getD_eq_getElem?_getD, List.getElem?_eq_getElem (by omega)]; rfl⟩
  have HG : Hid (GrowRel encZ 3 w (liveUp S 0) (.slice none 0 0) w) := Lib.hid (GrowRel.start _ _ _)
  clear h hl hIN hN
  generalize S.X.length = K at *
  go_enter Try.func16, Try.ntmps16
  go_wp2
  go_loopw [4, 3] (fun i s wr => ∃ (k : Nat) (v : Value), k ≤ K ∧ i = .int .i64 k ∧ v = s ∧ Hid (GrowRel encZ 3 w (liveUp S k) v wr)) (fun i _ _ => K - (intOf i).toNat)
  case atStart => exact ⟨0, _, Nat.zero_le _, rfl, rfl, HG⟩
  case round =>
    obtain ⟨k, v, hk, rfl, rfl, HR⟩ := hrel
    clear HG
    have i0 : (0 : Int) ≤ (k : Int) := by omega
    have c1' : wr.cell? ⟨b, 1, none⟩ = some (.slice q K c) := (HR.out.1.cell (p := ⟨b, 1, none⟩) hb).trans c1
    have hb' : b < wr.heap.size := Nat.lt_of_lt_of_le hb HR.out.1.size
    by_cases hlt : k < K
    · have i1 : (k : Int) < (K : Int) := by omega
      obtain ⟨g, ci, u, c2, hg, d1, d2⟩ := HC.out wr HR.out.1 k hlt
      have hul := liveUp_len S k
      cases u
      · have HU := Lib.hid (liveUp_no d2)
        clear d2 hul
        go_wp2
        go_roundw
        case rel => exact ⟨k + 1, _, by omega, by go_num, rfl, by rw [HU.out]; exact HR⟩
        case measure => (simp [intOf] <;> omega)
      · have HU := Lib.hid (liveUp_yes d2)
        clear d2
        generalize liveUp S k = xs at *
        go_wp2_with (first
          | (at_builtin; refine wpList_append_own_at _ rfl _ _ 36 rfl w.heap.size 3 i (.int .i64 0) 1 8 Try.underlying36 hi1 hi2 hi3 hi4 rfl (by decide) v xs.length (xs.map encZ) rfl (HR.out.2.alloc _) ⟨wr.heap.size, 0, none⟩ 1 1 [.int .i64 (k : Int)] rfl rfl one_news (by intro u hu; simp at hu; subst hu; rfl) (by unfold maxLen; omega) (by omega) (by have := HR.out.1.size; simp; omega) ?_; intro v' w6 hown6 hg6 _ _; have HS6 := Lib.hid (HR.out.step (k : Int) hown6 hg6); clear hown6 hg6; rw [← HU.out] at HS6)
          | go_in)
        go_roundw
        case rel => exact ⟨k + 1, _, by omega, by go_num, rfl, HS6⟩
        case measure => (simp [intOf] <;> omega)
    · have hge : ¬ (k : Int) < (K : Int) := by omega
      have hke : k = K := by omega
      have HE : Hid (liveUp S k = liveL S) := Lib.hid (by rw [hke, HK.out])
      clear hke
      go_wp2
      go_ret
      refine ⟨_, rfl, ?_⟩
      have := HR.out
      rw [HE.out] at this
      obtain ⟨q', c', e, hr, -⟩ := this.reads
      exact ⟨q', c', e, hr, this.1⟩
end Go.Proofs.Ytjemahnhdgkpcaa
