/- Contracts of the document's own answers for layer 3: the least one, the greatest one, how many are unlike. -/
import Derived.Test.YtbebnhadgbkepaaForderCount
import Derived.Deep.DeepFit
namespace Go.Proofs.Ytbebnhadgbkepaa
open Go.RowKit FbitPure ForderPure
open Go.Sort hiding Below
theorem lt_cmp (x y : Nat) : ltB x y = decide (cmpN x y < 0) := by
  unfold ltB
  by_cases h : x < y
  · rw [cmp_lt h]; simp [h]
  · by_cases h2 : y < x
    · rw [cmp_gt h2]; simp [h]
    · rw [cmp_eq (show x = y by omega)]; simp; omega
theorem gt_cmp (x y : Nat) : gtB x y = decide (0 < cmpN x y) := by
  unfold gtB
  by_cases h : x < y
  · rw [cmp_lt h]; simp; omega
  · by_cases h2 : y < x
    · rw [cmp_gt h2]; simp [h2]
    · rw [cmp_eq (show x = y by omega)]; simp; omega
theorem eq_cmp (x y : Nat) : (x = y) ↔ cmpN x y = 0 := by
  by_cases h : x < y
  · rw [cmp_lt h]; simp; omega
  · by_cases h2 : y < x
    · rw [cmp_gt h2]; simp; omega
    · rw [cmp_eq (show x = y by omega)]; simp; omega
set_option maxHeartbeats 1000000 in
theorem refLeast_any (a : Option Addr) (cap : Nat) (l : List Nat) (w : World) (hr : Wide l) (hl : ReadsE encU w.heap.size w a l) (hlen : l.length ≤ 1000) :
    Calls Try.prog 17 #[.slice a l.length cap] w fun e w' => e = .returned (.int .i64 (bestL ltB l)) ∧ Below w.heap.size w w' := by
  have HR := Lib.hid hr; have HL := Lib.hid hl
  clear hr hl
  go_enter Try.func17, Try.ntmps17
  go_wp2
  go_loopw [3, 4] (fun p i wr => ∃ (k : Nat) (P : Int) (B : Nat), p = .int .i64 P ∧ i = .int .i64 k ∧ k ≤ l.length ∧ Hid (bestGo ltB (fun i => pk (l.getD i 0)) k = (P, B) ∧ Below w.heap.size w wr)) (fun _ i _ => l.length - (intOf i).toNat)
  case atStart => exact ⟨0, -1, 0, rfl, rfl, Nat.zero_le _, rfl, Below.refl _ _⟩
  case round =>
    obtain ⟨k, P, B, rfl, rfl, hk, HK⟩ := hrel
    have hP := best_rng ltB (fun i => pk (l.getD i 0)) k
    rw [HK.out.1] at hP
    obtain ⟨hP1, hP2, hP3, -⟩ := hP
    simp only [] at hP1 hP2 hP3
    have HP3 := Lib.hid hP3
    clear hP3
    by_cases hlt : k < l.length
    · obtain ⟨b, off, ha, hbN, hck⟩ := (HL.out.on HK.out.2).at hlt
      subst ha
      have hrk := HR.out k
      have HY : Hid (∀ _ : P < 0 ∨ ltB (pk (l.getD k 0)) B = true, bestGo ltB (fun i => pk (l.getD i 0)) (k + 1) = ((k : Int), pk (l.getD k 0))) := fun h => best_yes HK.out.1 h
      have HN : Hid (∀ (_ : ¬ P < 0) (_ : ltB (pk (l.getD k 0)) B = false), bestGo ltB (fun i => pk (l.getD i 0)) (k + 1) = (P, B)) := fun h1 h2 => best_no HK.out.1 h1 h2
      by_cases hPn : P < 0
      · have t1 : decide (P < 0) = true := decide_eq_true hPn
        clear hck
        go_wp2
        go_quiet (first | (go_at_call 8; refine Calls.quiet_of_same (flip_same (refCmp_any _ _ _ _ _))))
        go_wp2
        go_roundw
        case rel => exact ⟨k + 1, k, _, rfl, by go_num, hlt, HY.out (Or.inl hPn), below_drewN HK.out.2 _⟩
        case measure => (simp [intOf] <;> omega)
      · have t1 : decide (P < 0) = false := decide_eq_false hPn
        obtain ⟨p, rfl⟩ := Int.eq_ofNat_of_zero_le (show 0 ≤ P by omega)
        have hB : B = pk (l.getD p 0) := by have := HP3.out (by omega); rwa [Int.toNat_natCast] at this
        obtain ⟨b', off', ha', -, hcp⟩ := (HL.out.on HK.out.2).at (k := p) (by omega)
        obtain ⟨rfl, rfl⟩ : b' = b ∧ off' = off := by cases ha'; exact ⟨rfl, rfl⟩
        have hrp := HR.out p
        subst hB
        have hcmp := refCmp_any (l.getD k 0) (l.getD p 0) hrk hrp
        unfold encU at hck hcp
        have HQ : Hid (ltB (pk (l.getD k 0)) (pk (l.getD p 0)) = decide (cmpN (pk (l.getD k 0)) (pk (l.getD p 0)) < 0)) := lt_cmp _ _
        generalize cmpN (pk (l.getD k 0)) (pk (l.getD p 0)) = n at *
        generalize l.getD k 0 = x at *
        generalize l.getD p 0 = y at *
        have HC := Lib.hid hcmp
        clear hcmp
        by_cases hn : n < 0
        · go_wp2
          go_quiet (first | (go_at_call 8; refine Calls.quiet_of_same (flip_same (HC.out _))))
          go_wp2
          go_roundw
          case rel => exact ⟨k + 1, k, _, rfl, by go_num, hlt, HY.out (Or.inr (by rw [HQ.out]; exact decide_eq_true (by omega))), below_drewN HK.out.2 _⟩
          case measure => (simp [intOf] <;> omega)
        · go_wp2
          go_quiet (first | (go_at_call 8; refine Calls.quiet_of_same (flip_same (HC.out _))))
          go_wp2
          go_roundw
          case rel => exact ⟨k + 1, p, _, rfl, by go_num, hlt, HN.out hPn (by rw [HQ.out]; exact decide_eq_false (by omega)), below_drewN HK.out.2 _⟩
          case measure => (simp [intOf] <;> omega)
    · have hke := Lib.hid (show k = l.length by omega)
      go_wp2
      go_ret
      exact ⟨ret_i (best_end HK.out.1 hke.out), HK.out.2⟩
set_option maxHeartbeats 1000000 in
theorem refMost_any (a : Option Addr) (cap : Nat) (l : List Nat) (w : World) (hr : Wide l) (hl : ReadsE encU w.heap.size w a l) (hlen : l.length ≤ 1000) :
    Calls Try.prog 19 #[.slice a l.length cap] w fun e w' => e = .returned (.int .i64 (bestL gtB l)) ∧ Below w.heap.size w w' := by
  have HR := Lib.hid hr; have HL := Lib.hid hl
  clear hr hl
  go_enter Try.func19, Try.ntmps19
  go_wp2
  go_loopw [3, 4] (fun p i wr => ∃ (k : Nat) (P : Int) (B : Nat), p = .int .i64 P ∧ i = .int .i64 k ∧ k ≤ l.length ∧ Hid (bestGo gtB (fun i => pk (l.getD i 0)) k = (P, B) ∧ Below w.heap.size w wr)) (fun _ i _ => l.length - (intOf i).toNat)
  case atStart => exact ⟨0, -1, 0, rfl, rfl, Nat.zero_le _, rfl, Below.refl _ _⟩
  case round =>
    obtain ⟨k, P, B, rfl, rfl, hk, HK⟩ := hrel
    have hP := best_rng gtB (fun i => pk (l.getD i 0)) k
    rw [HK.out.1] at hP
    obtain ⟨hP1, hP2, hP3, -⟩ := hP
    simp only [] at hP1 hP2 hP3
    have HP3 := Lib.hid hP3
    clear hP3
    by_cases hlt : k < l.length
    · obtain ⟨b, off, ha, hbN, hck⟩ := (HL.out.on HK.out.2).at hlt
      subst ha
      have hrk := HR.out k
      have HY : Hid (∀ _ : P < 0 ∨ gtB (pk (l.getD k 0)) B = true, bestGo gtB (fun i => pk (l.getD i 0)) (k + 1) = ((k : Int), pk (l.getD k 0))) := fun h => best_yes HK.out.1 h
      have HN : Hid (∀ (_ : ¬ P < 0) (_ : gtB (pk (l.getD k 0)) B = false), bestGo gtB (fun i => pk (l.getD i 0)) (k + 1) = (P, B)) := fun h1 h2 => best_no HK.out.1 h1 h2
      by_cases hPn : P < 0
      · have t1 : decide (P < 0) = true := decide_eq_true hPn
        clear hck
        go_wp2
        go_quiet (first | (go_at_call 8; refine Calls.quiet_of_same (flip_same (refCmp_any _ _ _ _ _))))
        go_wp2
        go_roundw
        case rel => exact ⟨k + 1, k, _, rfl, by go_num, hlt, HY.out (Or.inl hPn), below_drewN HK.out.2 _⟩
        case measure => (simp [intOf] <;> omega)
      · have t1 : decide (P < 0) = false := decide_eq_false hPn
        obtain ⟨p, rfl⟩ := Int.eq_ofNat_of_zero_le (show 0 ≤ P by omega)
        have hB : B = pk (l.getD p 0) := by have := HP3.out (by omega); rwa [Int.toNat_natCast] at this
        obtain ⟨b', off', ha', -, hcp⟩ := (HL.out.on HK.out.2).at (k := p) (by omega)
        obtain ⟨rfl, rfl⟩ : b' = b ∧ off' = off := by cases ha'; exact ⟨rfl, rfl⟩
        have hrp := HR.out p
        subst hB
        have hcmp := refCmp_any (l.getD k 0) (l.getD p 0) hrk hrp
        unfold encU at hck hcp
        have HQ : Hid (gtB (pk (l.getD k 0)) (pk (l.getD p 0)) = decide (0 < cmpN (pk (l.getD k 0)) (pk (l.getD p 0)))) := gt_cmp _ _
        generalize cmpN (pk (l.getD k 0)) (pk (l.getD p 0)) = n at *
        generalize l.getD k 0 = x at *
        generalize l.getD p 0 = y at *
        have HC := Lib.hid hcmp
        clear hcmp
        by_cases hn : 0 < n
        · go_wp2
          go_quiet (first | (go_at_call 8; refine Calls.quiet_of_same (flip_same (HC.out _))))
          go_wp2
          go_roundw
          case rel => exact ⟨k + 1, k, _, rfl, by go_num, hlt, HY.out (Or.inr (by rw [HQ.out]; exact decide_eq_true (by omega))), below_drewN HK.out.2 _⟩
          case measure => (simp [intOf] <;> omega)
        · go_wp2
          go_quiet (first | (go_at_call 8; refine Calls.quiet_of_same (flip_same (HC.out _))))
          go_wp2
          go_roundw
          case rel => exact ⟨k + 1, p, _, rfl, by go_num, hlt, HN.out hPn (by rw [HQ.out]; exact decide_eq_false (by omega)), below_drewN HK.out.2 _⟩
          case measure => (simp [intOf] <;> omega)
    · have hke := Lib.hid (show k = l.length by omega)
      go_wp2
      go_ret
      exact ⟨ret_i (best_end HK.out.1 hke.out), HK.out.2⟩
theorem keys_get (l : List Nat) {k : Nat} (hk : k < l.length) : (keysOf l).getD k 0 = pk (l.getD k 0) := by
  unfold keysOf
  simp [List.getD_eq_getElem?_getD, hk]
theorem mem_next {ks : List Nat} {x k : Nat} (hk : k < ks.length) : x ∈ ks.take (k + 1) ↔ x ∈ ks.take k ∨ x = ks.getD k 0 := by
  have e : ks.take (k + 1) = ks.take k ++ [ks.getD k 0] := by
    rw [List.take_add_one, List.getElem?_eq_getElem hk]
    simp [List.getD_eq_getElem?_getD, hk]
  rw [e]
  simp
set_option maxHeartbeats 1000000 in
theorem refCount_any (a : Option Addr) (cap : Nat) (l : List Nat) (w : World) (hr : Wide l) (hl : ReadsE encU w.heap.size w a l) (hlen : l.length ≤ 1000) :
    Calls Try.prog 21 #[.slice a l.length cap] w fun e w' => e = .returned (.int .i64 (countN l : Int)) ∧ Below w.heap.size w w' := by
  have HR := Lib.hid hr; have HL := Lib.hid hl
  have HLEN : Hid ((keysOf l).length = l.length) := by show _ = _; simp [keysOf]
  clear hr hl
  go_enter Try.func21, Try.ntmps21
  go_wp2
  go_loopw [3, 4] (fun p i wr => ∃ k c : Nat, p = .int .i64 c ∧ i = .int .i64 k ∧ k ≤ l.length ∧ c ≤ k ∧ Hid (c = dn ((keysOf l).take k) ∧ Below w.heap.size w wr)) (fun _ i _ => l.length - (intOf i).toNat)
  case atStart => exact ⟨0, 0, rfl, rfl, Nat.zero_le _, Nat.le_refl _, rfl, Below.refl _ _⟩
  case round =>
    obtain ⟨k, c, rfl, rfl, hk, hc, HK⟩ := hrel
    by_cases hlt : k < l.length
    · go_wp2
      go_loopw [5, 6] (fun q j wr => ∃ (x : Nat) (A : Bool), q = .bool A ∧ j = .int .i64 x ∧ x ≤ k ∧ Hid (A = decide ((keysOf l).getD k 0 ∈ (keysOf l).take x) ∧ Below w.heap.size w wr)) (fun _ j _ => k - (intOf j).toNat)
      case atStart => exact ⟨0, false, rfl, rfl, Nat.zero_le _, by simp, HK.out.2⟩
      case round =>
        obtain ⟨x, A, rfl, rfl, hx, HX⟩ := hrel
        by_cases hxk : x < k
        · obtain ⟨b, off, ha, hbN, hck⟩ := (HL.out.on HX.out.2).at hlt
          subst ha
          obtain ⟨b', off', ha', -, hcp⟩ := (HL.out.on HX.out.2).at (k := x) (by omega)
          obtain ⟨rfl, rfl⟩ : b' = b ∧ off' = off := by cases ha'; exact ⟨rfl, rfl⟩
          have hrk := HR.out k
          have hrx := HR.out x
          have HM : Hid (∀ B, B = (A || decide (cmpN (pk (l.getD k 0)) (pk (l.getD x 0)) = 0)) → B = decide ((keysOf l).getD k 0 ∈ (keysOf l).take (x + 1))) := by
            show ∀ B, _ → _
            intro B hB
            rw [hB, HX.out.1, Bool.eq_iff_iff]
            simp only [Bool.or_eq_true, decide_eq_true_eq]
            rw [mem_next (by rw [HLEN.out]; omega), ← eq_cmp, keys_get l hlt, keys_get l (by omega)]
          cases A
          · have hcmp := refCmp_any (l.getD k 0) (l.getD x 0) hrk hrx
            unfold encU at hck hcp
            generalize cmpN (pk (l.getD k 0)) (pk (l.getD x 0)) = n at *
            generalize l.getD k 0 = y at *
            generalize l.getD x 0 = z at *
            have HC := Lib.hid hcmp
            clear hcmp
            by_cases hn : n = 0
            · subst hn
              go_wp2
              go_quiet (first | (go_at_call 8; refine Calls.quiet_of_same (flip_same (HC.out _))))
              go_wp2
              go_roundw
              case rel => exact ⟨x + 1, true, rfl, by go_num, by omega, HM.out _ rfl, below_drewN HX.out.2 _⟩
              case measure => (simp [intOf] <;> omega)
            · have hn' : (n == 0) = false := by simp [hn]
              have HN := Lib.hid hn
              clear hn
              go_wp2
              go_quiet (first | (go_at_call 8; refine Calls.quiet_of_same (flip_same (HC.out _))))
              go_wp2
              go_roundw
              case rel => exact ⟨x + 1, false, rfl, by go_num, by omega, HM.out _ (by simp [HN.out]), below_drewN HX.out.2 _⟩
              case measure => (simp [intOf] <;> omega)
          · clear hck hcp
            go_wp2
            go_quiet (first | (go_at_call 8; refine Calls.quiet_of_same (flip_same (refCmp_any _ _ _ _ _))))
            go_wp2
            go_roundw
            case rel => exact ⟨x + 1, true, rfl, by go_num, by omega, HM.out _ rfl, below_drewN HX.out.2 _⟩
            case measure => (simp [intOf] <;> omega)
        · have hxe : x = k := by omega
          subst hxe
          have HD := Lib.hid (dn_take (l := keysOf l) (k := x) (by rw [HLEN.out]; exact hlt))
          cases A
          · go_wp2
            go_roundw
            case rel =>
              refine ⟨x + 1, c + 1, by go_num, by go_num, hlt, by omega, ?_, HX.out.2⟩
              have h1 := HX.out.1
              have h2 : ¬ (keysOf l).getD x 0 ∈ (keysOf l).take x := fun h => by rw [decide_eq_true h] at h1; cases h1
              rw [HD.out, if_neg h2, HK.out.1]
            case measure => (simp [intOf] <;> omega)
          · go_wp2
            go_roundw
            case rel =>
              refine ⟨x + 1, c, rfl, by go_num, hlt, by omega, ?_, HX.out.2⟩
              have h1 := HX.out.1
              rw [HD.out, if_pos (of_decide_eq_true h1.symm), HK.out.1]
              rfl
            case measure => (simp [intOf] <;> omega)
    · have hke : k = l.length := by omega
      subst hke
      have HF : Hid (c = countN l) := by
        show c = countN l
        have := HK.out.1
        rw [← HLEN.out, List.take_length] at this
        exact this
      go_wp2
      go_ret
      exact ⟨ret_i (by rw [HF.out]), HK.out.2⟩
end Go.Proofs.Ytbebnhadgbkepaa
