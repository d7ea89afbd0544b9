/- Whether two sets are the same; which vertices a set parts. -/
import Derived.Test.YtkhkejfpoaleoaaDoorVsetTwin
namespace Go.Proofs.YtkhkejfpoaleoaaDoor
open Go.RowKit Go.ChangeShapes VsetPure
/-- At the head of a round: the words were alike so far. -/
def EqRel (ws vs : List Nat) (w0 : World) (k : Nat) (w : World) : Prop := k ≤ ws.length ∧ (∃ m, w = w0.drewN m) ∧ ws.take k = vs.take k
theorem eq_next {ws vs : List Nat} {k : Nat} (h1 : k < ws.length) (h2 : k < vs.length) (h : ws.take k = vs.take k) (e : ws[k] = vs[k]) : ws.take (k + 1) = vs.take (k + 1) := by
  rw [take_snoc ws k h1, take_snoc vs k h2, h, e]
theorem eq_not {ws vs : List Nat} {k : Nat} (h1 : k < ws.length) (h2 : k < vs.length) (e : ws[k] ≠ vs[k]) : decide (ws = vs) = false := by
  refine decide_eq_false (fun h => e ?_)
  subst h; rfl
theorem equal_any (g1 g2 : Nat) (c1 c2 : Nat) (ws vs : List Nat) (w : World) (hl1 : ws.length ≤ 64) (hl2 : vs.length ≤ 64) (h1 : RowIs g1 w (ws.map encW)) (h2 : RowIs g2 w (vs.map encW)) :
    Calls Tryd.prog 30 #[.slice (some ⟨g1, 0, none⟩) ws.length c1, .slice (some ⟨g2, 0, none⟩) vs.length c2] w fun e w' => e = .returned (.bool (decide (ws = vs))) ∧ ∃ m, w' = w.drewN m := by
  have H1 := Lib.hid h1
  have H2 := Lib.hid h2
  clear h1 h2
  by_cases hn : ws.length = vs.length
  · have t : ((ws.length : Int) != (vs.length : Int)) = false := by simp [hn]
    have HN := Lib.hid hn
    go_enter Tryd.func30, Tryd.ntmps30
    clear hn
    go_wp2
    go_loopw [13] (fun i wr => ∃ k : Nat, i = .int .i64 k ∧ Hid (EqRel ws vs w k wr)) (fun i _ => ws.length - (intOf i).toNat)
    case atStart => exact ⟨0, rfl, Lib.hid ⟨Nat.zero_le _, ⟨0, rfl⟩, rfl⟩⟩
    case round =>
      obtain ⟨k, rfl, HK⟩ := hrel
      have hk := HK.out.1
      obtain ⟨m, rfl⟩ := HK.out.2.1
      have i0 : (0 : Int) ≤ (k : Int) := by omega
      by_cases hlt : k < ws.length
      · have hlt2 : k < vs.length := by have := HN.out; omega
        have i1 : (k : Int) < (ws.length : Int) := by omega
        have i2 : (k : Int) < (vs.length : Int) := by omega
        have d1 := (H1.out k (by rw [List.length_map]; exact hlt)).1
        have d2 := (H2.out k (by rw [List.length_map]; exact hlt2)).1
        rw [List.getElem_map] at d1 d2
        unfold encW at d1 d2
        by_cases he : ws[k] = vs[k]
        · have hN := Lib.hid (eq_next hlt hlt2 HK.out.2.2 he)
          rw [he] at d1
          clear he
          generalize vs[k] = x at *
          go_wp2
          go_quiet (fail)
          go_wp2
          go_roundw
          case rel => exact ⟨k + 1, by go_num, Lib.hid ⟨by omega, ⟨_, rfl⟩, hN.out⟩⟩
          case measure => (simp [intOf] <;> omega)
        · have hN := Lib.hid (eq_not hlt hlt2 he)
          have t2 : (((ws[k] : Nat) : Int) != ((vs[k] : Nat) : Int)) = true := by
            have : ((ws[k] : Nat) : Int) ≠ ((vs[k] : Nat) : Int) := fun e => he (by omega)
            simpa using this
          clear he
          generalize ws[k] = x at *
          generalize vs[k] = y at *
          go_wp2
          go_quiet (fail)
          go_wp2
          go_ret
          exact ⟨bool_ret hN.out.symm, _, World.drewN_drewN _ _ _⟩
      · have hke : k = ws.length := by omega
        have hfin : ws = vs := by
          have := HK.out.2.2
          rw [hke, List.take_length, HN.out, List.take_length] at this
          exact this
        have HF := Lib.hid hfin
        clear hfin
        go_wp2
        go_ret
        exact ⟨bool_ret (by rw [decide_eq_true HF.out]), _, rfl⟩
  · have t : ((ws.length : Int) != (vs.length : Int)) = true := by
      have : (ws.length : Int) ≠ (vs.length : Int) := fun e => hn (by omega)
      simpa using this
    have HN : Hid (decide (ws = vs) = false) := Lib.hid (decide_eq_false (fun e => hn (by rw [e])))
    clear hn
    go_enter Tryd.func30, Tryd.ntmps30
    go_wp2
    go_ret
    exact ⟨bool_ret HN.out.symm, 0, rfl⟩
theorem words_inj {ws vs : List Nat} (h1 : Wordy ws) (h2 : Wordy vs) (hl : ws.length = vs.length) (h : bitOf ws = bitOf vs) : ws = vs := by
  apply List.ext_getElem hl
  intro k k1 k2
  apply Nat.eq_of_testBit_eq
  intro i
  by_cases hi : i < 64
  · have := congrFun h (64 * k + i)
    unfold bitOf at this
    rw [show (64 * k + i) / 64 = k by omega, show (64 * k + i) % 64 = i by omega, List.getD_eq_getElem?_getD, List.getD_eq_getElem?_getD, List.getElem?_eq_getElem k1, List.getElem?_eq_getElem k2] at this
    exact this
  · have e : (2 : Nat) ^ 64 ≤ 2 ^ i := Nat.pow_le_pow_right (by decide) (by omega)
    rw [Nat.testBit_lt_two_pow (Nat.lt_of_lt_of_le (h1 _ (List.getElem_mem k1)) e), Nat.testBit_lt_two_pow (Nat.lt_of_lt_of_le (h2 _ (List.getElem_mem k2)) e)]
def sameP (n : Nat) (p : Nat → Bool) (m : Nat) (q : Nat → Bool) : Bool := decide (n = m) && decide (listP p n = listP q m)
theorem same_nil (w : World) :
    Calls Tryd.prog 20 #[.pointer none, .pointer none] w fun e w' => e = .returned (.bool true) ∧ w = w' := by
  go_enter Tryd.func20, Tryd.ntmps20
  go_wp2
  go_ret
  exact ⟨rfl, rfl⟩
theorem same_left (b : Nat) (w : World) :
    Calls Tryd.prog 20 #[.pointer none, .pointer (some ⟨b, 0, none⟩)] w fun e w' => e = .returned (.bool false) ∧ w = w' := by
  go_enter Tryd.func20, Tryd.ntmps20
  go_wp2
  go_ret
  exact ⟨rfl, rfl⟩
theorem same_right (b : Nat) (w : World) :
    Calls Tryd.prog 20 #[.pointer (some ⟨b, 0, none⟩), .pointer none] w fun e w' => e = .returned (.bool false) ∧ w = w' := by
  go_enter Tryd.func20, Tryd.ntmps20
  go_wp2
  go_ret
  exact ⟨rfl, rfl⟩
theorem same_any (b g n b' g' m : Nat) (p q : Nat → Bool) (w : World) (h : SetAt b g w n p) (h' : SetAt b' g' w m q) :
    Calls Tryd.prog 20 #[.pointer (some ⟨b, 0, none⟩), .pointer (some ⟨b', 0, none⟩)] w fun e w' => e = .returned (.bool (sameP n p m q)) ∧ ∃ k, w' = w.drewN k := by
  obtain ⟨a1, -, -, a4, ws, hw, hlen, hp, ht, hr⟩ := h
  obtain ⟨a1', -, -, a4', vs, hw', hlen', hp', ht', hr'⟩ := h'
  have c0 := ht.1; have c1 := ht.2.1; have d0 := ht'.1; have d1 := ht'.2.1
  by_cases hn : n = m
  · have HP : Hid (sameP n p m q = decide (ws = vs)) := Lib.hid (by
      subst hn
      unfold sameP
      rw [decide_eq_true rfl, Bool.true_and]
      refine decide_eq_decide.2 ⟨fun e => ?_, fun e => ?_⟩
      · refine words_inj hw hw' (by omega) ?_
        rw [← hp, ← hp']
        exact listP_inj a4 a4' e
      · rw [hp, hp', e])
    have HR := Lib.hid hr
    have HR' := Lib.hid hr'
    have l1 : ws.length ≤ 64 := by omega
    have l2 : vs.length ≤ 64 := by omega
    clear hw hw' hp hp' ht ht' hr hr' hlen hlen' a4 a4'
    subst hn
    go_enter Tryd.func20, Tryd.ntmps20
    go_wp2_with fail
    go_quiet (first | (go_at_call 30; exact Calls.quiet_of (equal_any g g' _ _ ws vs _ l1 l2 (HR.out.on (below_drewN (Below.refl (max (g + 1) (g' + 1)) w) _) (by omega)) (HR'.out.on (below_drewN (Below.refl (max (g + 1) (g' + 1)) w) _) (by omega)))))
    go_wp2
    go_ret
    exact ⟨bool_ret HP.out.symm, _, rfl⟩
  · have HP : Hid (sameP n p m q = false) := Lib.hid (by unfold sameP; rw [decide_eq_false hn]; rfl)
    have t : ((n : Int) == (m : Int)) = false := by
      have : (n : Int) ≠ (m : Int) := fun e => hn (by omega)
      simpa using this
    clear hw hw' hp hp' ht ht' hr hr' hlen hlen' a4 a4' hn
    go_enter Tryd.func20, Tryd.ntmps20
    go_wp2_with fail
    go_quiet (fail)
    go_wp2
    go_ret
    exact ⟨bool_ret HP.out.symm, _, rfl⟩
def partsP (n : Nat) (p : Nat → Bool) (u v : Int) : Bool := fitB n u && fitB n v && (p u.toNat != p v.toNat)
theorem parts_nil (u v : Int) (w : World) :
    Calls Tryd.prog 23 #[.pointer none, .int .i64 u, .int .i64 v] w fun e w' => e = .returned (.bool false) ∧ w = w' := by
  go_enter Tryd.func23, Tryd.ntmps23
  go_wp2_with (first | (go_at_call 28; refine (fits_nil _ _).mono ?_; rintro e w' ⟨rfl, rfl⟩))
  go_ret
  exact ⟨rfl, rfl⟩
theorem parts_any (b g n : Nat) (p : Nat → Bool) (u v : Int) (w : World) (h : SetAt b g w n p) :
    Calls Tryd.prog 23 #[.pointer (some ⟨b, 0, none⟩), .int .i64 u, .int .i64 v] w fun e w' => e = .returned (.bool (partsP n p u v)) ∧ ∃ k, w' = w.drewN k := by
  have hc : w.cell? ⟨b, 0, none⟩ = some (.int .i64 (n : Int)) := by obtain ⟨ws, -, -, -, t, -⟩ := h.2.2.2.2; exact t.1
  have HC := Lib.hid hc
  have HS := Lib.hid h
  have HP := Lib.hid (show partsP n p u v = (fitB n u && fitB n v && (p u.toNat != p v.toNat)) from rfl)
  clear hc h
  cases hu : fitB n u
  · have HU := Lib.hid hu
    have HR : Hid (partsP n p u v = false) := Lib.hid (by rw [HP.out, HU.out]; rfl)
    clear hu
    go_enter Tryd.func23, Tryd.ntmps23
    go_wp2_with (first | (go_at_call 28; refine (fits_any b n u _ HC.out).mono ?_; rintro e w' ⟨rfl, rfl⟩; rw [HU.out]))
    go_ret
    exact ⟨bool_ret HR.out.symm, 0, rfl⟩
  · have HU := Lib.hid hu
    clear hu
    cases hv : fitB n v
    · have HV := Lib.hid hv
      have HR : Hid (partsP n p u v = false) := Lib.hid (by rw [HP.out, HU.out, HV.out]; rfl)
      clear hv
      go_enter Tryd.func23, Tryd.ntmps23
      go_wp2_with fail
      refine (fits_any b n u _ HC.out).mono ?_
      rintro e w' ⟨rfl, rfl⟩
      rw [HU.out]
      go_wp2_with fail
      refine (fits_any b n v _ HC.out).mono ?_
      rintro e w' ⟨rfl, rfl⟩
      rw [HV.out]
      go_wp2
      go_ret
      exact ⟨bool_ret HR.out.symm, 0, rfl⟩
    · have HV := Lib.hid hv
      have HR : Hid (partsP n p u v = (p u.toNat != p v.toNat)) := Lib.hid (by rw [HP.out, HU.out, HV.out]; rfl)
      clear hv
      go_enter Tryd.func23, Tryd.ntmps23
      go_wp2_with fail
      refine (fits_any b n u _ HC.out).mono ?_
      rintro e w' ⟨rfl, rfl⟩
      rw [HU.out]
      go_wp2_with fail
      refine (fits_any b n v _ HC.out).mono ?_
      rintro e w' ⟨rfl, rfl⟩
      rw [HV.out]
      go_wp2_with fail
      refine (has_any b g n p u _ HS.out).mono ?_
      rintro e w' ⟨rfl, m, rfl⟩
      rw [HU.out, Bool.true_and]
      go_wp2_with fail
      refine (has_any b g n p v _ (HS.out.drawn m)).mono ?_
      rintro e w' ⟨rfl, m', rfl⟩
      rw [HV.out, Bool.true_and]
      go_wp2
      go_ret
      exact ⟨bool_ret HR.out.symm, _, rfl⟩
end Go.Proofs.YtkhkejfpoaleoaaDoor
