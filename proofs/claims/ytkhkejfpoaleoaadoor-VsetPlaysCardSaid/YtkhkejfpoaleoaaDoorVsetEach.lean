/- The vertices of a set, one by one, rising: each's contract, for every body that goes on and leaves the set as it is. -/
import Derived.Test.YtkhkejfpoaleoaaDoorVsetNew
import Derived.Test.YtkhkejfpoaleoaaDoorVsetRange
namespace Go.Proofs.YtkhkejfpoaleoaaDoor
open Go.RowKit Go.ChangeShapes VsetPure Go.Shelf
attribute [local go_sem] Oper.semAt_some
theorem listP_cut (q : Nat → Bool) {a b : Nat} (h : a ≤ b) : ∃ r, listP q b = listP q a ++ r := by
  obtain ⟨k, rfl⟩ : ∃ k, b = a + k := ⟨b - a, by omega⟩
  exact ⟨_, listP_add q a k⟩
/-- What is behind the vertex that comes next. -/
theorem each_next {ws : List Nat} {k y : Nat} {pre : List Nat} (hk : k < ws.length) (h0 : y ≠ 0) (hy : y < 18446744073709551616)
    (h : pre ++ (bitsOf y).map (64 * k + ·) = listP (bitOf ws) (64 * (k + 1))) :
    (∃ rest, listP (bitOf ws) (64 * ws.length) = pre ++ (64 * k + tz y) :: rest) ∧ (pre ++ [64 * k + tz y]) ++ (bitsOf (y &&& (y - 1))).map (64 * k + ·) = listP (bitOf ws) (64 * (k + 1)) := by
  rw [bits_step y h0 hy, List.map_cons] at h
  constructor
  · obtain ⟨r, hr⟩ := listP_cut (bitOf ws) (a := 64 * (k + 1)) (b := 64 * ws.length) (by omega)
    rw [hr, ← h]
    exact ⟨_, by rw [List.append_assoc, List.cons_append]⟩
  · rw [← h, List.append_assoc]; rfl
theorem low_lt (y : Nat) (h0 : y ≠ 0) : y &&& (y - 1) < y := Nat.lt_of_le_of_lt Nat.and_le_right (by omega)
set_option maxRecDepth 100000 in
set_option maxHeartbeats 1000000 in
theorem each_in (m : Nat) (hm : 1 ≤ m) (l b g : Nat) (ws : List Nat) (hw : Wordy ws) (h64 : ws.length ≤ 64) (J : List Nat → World → Prop)
    (hJ : ∀ ys W, J ys W → W.cell? ⟨b, 1, none⟩ = some (.slice (some ⟨g, 0, none⟩) ws.length ws.length) ∧ RowIs g W (ws.map encW) ∧ TabAt 0 Lib.deBruijn64tab W)
    (hY : ∀ (pre : List Nat) (x : Nat) (rest : List Nat) (W : World), listP (bitOf ws) (64 * ws.length) = pre ++ x :: rest → J pre W → YieldAt Fence.wide (m - 1) Tryd.prog l #[.int .i64 (x : Int)] W fun e V => e = .returned (.bool true) ∧ J (pre ++ [x]) V)
    (W : World) (h0 : J [] W) :
    CallsIn Fence.wide m Tryd.prog 32 #[.pointer (some ⟨b, 0, none⟩), .func (.yield l) #[] #[]] W fun e V => (∃ v, e = .returned v) ∧ J (listP (bitOf ws) (64 * ws.length)) V := by
  have HJ := Lib.hid hJ
  have HY := Lib.hid hY
  have HW := Lib.hid hw
  have c1 := (hJ _ _ h0).1
  clear hJ hY hw
  refine callsIn_of_wp Tryd.func32 rfl trivial ?_ rfl
  simp only [Tryd.ntmps32, List.size_toArray, List.length_cons, List.length_nil, Nat.reduceAdd, Nat.reduceSub, Array.replicate_succ, Array.replicate_zero, List.push_toArray, List.append_toArray, List.nil_append, List.cons_append]
  gi_wp2
  gi_loopw [13] (fun i wr => ∃ k : Nat, k ≤ ws.length ∧ i = .int .i64 k ∧ Hid (J (listP (bitOf ws) (64 * k)) wr)) (fun i _ => ws.length - (intOf i).toNat)
  case atStart => exact ⟨0, Nat.zero_le _, rfl, Lib.hid h0⟩
  case round =>
    obtain ⟨k, hk, rfl, HS⟩ := hrel
    have i0 : (0 : Int) ≤ (k : Int) := by omega
    by_cases hlt : k < ws.length
    · have i1 : (k : Int) < (ws.length : Int) := by omega
      have c2 := ((HJ.out _ _ HS.out).2.1 k (by rw [List.length_map]; exact hlt)).1
      rw [List.getElem_map] at c2
      have e : ws[k] = ws.getD k 0 := by rw [List.getD_eq_getElem?_getD, List.getElem?_eq_getElem hlt]; rfl
      rw [e] at c2
      unfold encW at c2
      have hx := HW.out.at k
      have hN := Lib.hid (words_next ws k)
      clear e c1
      generalize ws.getD k 0 = x at *
      gi_wp2
      gi_loopw [5] (fun v wi => ∃ (y : Nat) (pre : List Nat), v = .int .u64 y ∧ Hid (y < 18446744073709551616) ∧ Hid (J pre wi) ∧ Hid (pre ++ (bitsOf y).map (64 * k + ·) = listP (bitOf ws) (64 * (k + 1)))) (fun v _ => (intOf v).toNat)
      case atStart => exact ⟨x, _, rfl, Lib.hid hx, HS, Lib.hid hN.out.symm⟩
      case round =>
        obtain ⟨y, pre, rfl, HB, HS2, HP⟩ := hrel
        by_cases hy0 : y = 0
        · subst hy0
          gi_wp2
          go_roundw
          case rel => exact ⟨k + 1, by omega, by go_num, Lib.hid (by have := HP.out; rw [bits_zero] at this; rw [← this]; simpa using HS2.out)⟩
          case measure => (simp [intOf] <;> omega)
        · have t0 : ((y : Int) != 0) = true := by simpa using hy0
          obtain ⟨⟨rest, hrest⟩, hnext⟩ := each_next hlt hy0 HB.out HP.out
          have ht64 : tz y < 64 := (tz_spec y hy0 HB.out).choose_spec.2
          have htab := (HJ.out _ _ HS2.out).2.2
          obtain ⟨fn, tmps, assign, body, hyd, hR⟩ := HY.out pre (64 * k + tz y) rest _ hrest HS2.out
          have ex : ((64 * k + tz y : Nat) : Int) = (k : Int) * 64 + (tz y : Int) := by omega
          rw [ex] at hyd
          have HN := Lib.hid hnext
          have HL := Lib.hid (low_lt y hy0)
          have hyb := HB.out
          have ha : Hid (bits .and .u64 (y : Int) ((y : Int) - 1) = ((y &&& (y - 1) : Nat) : Int)) := Lib.hid (by
            have := and_lit y hyb (y - 1) (by omega)
            rwa [show ((y - 1 : Nat) : Int) = (y : Int) - 1 by omega] at this)
          have HT := Lib.hid htab
          clear hnext hrest ex htab
          gi_wp2_with (first | (refine ⟨trivial, ?_⟩; gi_at_call 33; refine (callsIn_wide.2 (tz_any y hyb _ HT.out)).mono ?_; rintro e w' ⟨rfl, rfl⟩))
          refine hR.mono ?_
          rintro e W3 ⟨rfl, hJ3⟩
          have HS3 := Lib.hid hJ3
          clear hJ3 hR hyd
          gi_wp2
          go_roundw
          case rel => exact ⟨y &&& (y - 1), pre ++ [64 * k + tz y], by rw [ha.out], Lib.hid (Nat.lt_trans HL.out hyb), HS3, HN⟩
          case measure => have := HL.out; rw [ha.out]; (simp [intOf] <;> omega)
    · have hke : k = ws.length := by omega
      subst hke
      gi_wp2
      go_end0
      exact ⟨⟨_, rfl⟩, HS.out⟩
end Go.Proofs.YtkhkejfpoaleoaaDoor
