/- The document's Check and In (layer 21). -/
import Derived.Test.YtbankocbncpepaaSdPure
import Derived.Test.YtbankocbncpepaaBox
import Derived.Deep.QuietTactic
import Derived.BigQuiet
import Derived.IntWalk
namespace Go.Proofs.Ytbankocbncpepaa.Sd
open Go.RowKit Go.ChangeShapes EdPure NtPure CutPure SdPure Cm
set_option maxHeartbeats 1000000 in
theorem in_any (a : Option Addr) (c : Nat) (l : List Int) (hl : l.length ≤ 1000000000) (v : Int) (w : World) (hR : ReadsL encZ w.heap.size w a l) :
    Calls Try.prog 33 #[.slice a l.length c, .int .i64 v] w fun e w' => e = .returned (.bool (inS l v)) ∧ w' = w := by
  have HR := Lib.hid hR
  clear hR
  go_enter Try.func33, Try.ntmps33
  go_wp2
  go_loopw [5] (fun i wr => ∃ k : Nat, i = .int .i64 k ∧ k ≤ l.length ∧ Hid (v ∉ l.take k) ∧ wr = w) (fun i _ => l.length - (intOf i).toNat)
  case atStart => exact ⟨0, rfl, Nat.zero_le _, Lib.hid (by simp), rfl⟩
  case round =>
    obtain ⟨k, rfl, hk, HK, rfl⟩ := hrel
    by_cases hlt : k < l.length
    · have i1 : (k : Int) < (l.length : Int) := by omega
      obtain ⟨b, off, rfl, hbN, hc⟩ := HR.out.at hlt
      have hT := take_one hlt
      have hm : l[k] ∈ l := List.getElem_mem hlt
      generalize l[k] = x at *
      unfold encZ at hc
      by_cases hx : x = v
      · subst hx
        have HY : Hid (inS l x = true) := Lib.hid (inS_iff.2 hm)
        clear hT hm
        go_wp2
        go_ret
        exact ⟨bool_ret HY.out.symm, rfl⟩
      · have HN : Hid (v ∉ l.take (k + 1)) := Lib.hid (by rw [hT, List.mem_append]; exact fun e => e.elim HK.out (fun e => hx (List.mem_singleton.1 e).symm))
        have t : (x == v) = false := by simpa using hx
        clear hT hm hx
        go_wp2
        go_roundw
        case rel => exact ⟨k + 1, by go_num, hlt, HN, by trivial⟩
        case measure => simp [intOf]; omega
    · have HY : Hid (inS l v = false) := Lib.hid (by
        have := HK.out
        rw [List.take_of_length_le (by omega)] at this
        cases hb : inS l v with
        | false => rfl
        | true => exact absurd (inS_iff.1 hb) this)
      go_wp2
      go_ret
      exact ⟨bool_ret HY.out.symm, rfl⟩
set_option maxHeartbeats 2000000 in
theorem refCheck_any (n : Int) (a : Option Addr) (c : Nat) (l : List Int) (hl : l.length ≤ 1000000000) (w : World) (hR : ReadsL encZ w.heap.size w a l) :
    Calls Try.prog 9 #[.int .i64 n, .slice a l.length c] w fun e w' => e = .returned (.int .i64 (chkS n l)) ∧ ∃ m, w' = w.drewN m := by
  have HR := Lib.hid hR
  clear hR
  go_enter Try.func9, Try.ntmps9
  go_wp2
  go_loopw [5] (fun i wr => ∃ (k m : Nat), i = .int .i64 k ∧ k ≤ l.length ∧ Hid (RightS n (l.take k)) ∧ wr = w.drewN m) (fun i _ => l.length - (intOf i).toNat)
  case atStart => exact ⟨0, 0, rfl, Nat.zero_le _, Lib.hid ⟨fun v hv => by simp at hv, by simp⟩, rfl⟩
  case round =>
    obtain ⟨k, m, rfl, hk, HK, rfl⟩ := hrel
    by_cases hlt : k < l.length
    · have i1 : (k : Int) < (l.length : Int) := by omega
      have i0 : (0 : Int) ≤ (k : Int) := by omega
      have HNx := Lib.hid (right_next hlt HK.out)
      have HBad : Hid (¬ RightS n (l.take (k + 1)) → chkS n l = 4) := Lib.hid chk_bad
      obtain ⟨b, off, rfl, hbN, hc0⟩ := HR.out.at hlt
      have hc : w.cell? ⟨b, off + k, none⟩ = some (encZ l[k]) := hc0
      clear hc0
      by_cases hk0 : 0 < k
      · obtain ⟨b', off', he, -, hd0⟩ := HR.out.at (show k - 1 < l.length by omega)
        cases he
        have HNY : Hid (RightS n (l.take (k + 1)) ↔ (0 ≤ l[k] ∧ l[k] < n) ∧ l[k - 1]'(by omega) < l[k]) := Lib.hid (HNx.out.trans ⟨fun e => ⟨e.1, e.2 hk0⟩, fun e => ⟨e.1, fun _ => e.2⟩⟩)
        clear HNx
        generalize l[k] = x at *
        generalize l[k - 1]'(by omega) = y at *
        have e1 : IntKind.i64.wrap ((k : Int) - 1) = ((k - 1 : Nat) : Int) := by rw [IntWalk.i64_in _ (by omega)]; omega
        have i2 : ((k - 1 : Nat) : Int) < (l.length : Int) := by omega
        have hd : w.cell? ⟨b, off + (k - 1), none⟩ = some (encZ y) := hd0
        clear hd0
        generalize k - 1 = j at *
        have i3 : (0 : Int) ≤ (j : Int) := by omega
        have d0 : decide (0 < k) = true := by simpa using hk0
        unfold encZ at hc hd
        by_cases c1 : x < 0
        · have HX := Lib.hid (HBad.out (fun e => by have := HNY.out.1 e; omega))
          have t1 : decide (x < 0) = true := by simpa using c1
          clear hk0
          go_wp2
          go_quiet (fail)
          go_wp2
          go_ret
          exact ⟨ret_i HX.out.symm, _, World.drewN_drewN _ _ _⟩
        · have t1 : decide (x < 0) = false := by simpa using c1
          by_cases c2 : n ≤ x
          · have HX := Lib.hid (HBad.out (fun e => by have := HNY.out.1 e; omega))
            have t2 : decide (n ≤ x) = true := by simpa using c2
            clear hk0
            go_wp2
            go_quiet (fail)
            go_wp2
            go_ret
            exact ⟨ret_i HX.out.symm, _, World.drewN_drewN _ _ _⟩
          · have t2 : decide (n ≤ x) = false := by simpa using c2
            by_cases c3 : x ≤ y
            · have HX := Lib.hid (HBad.out (fun e => by have := HNY.out.1 e; omega))
              have t3 : decide (x ≤ y) = true := by simpa using c3
              clear hk0
              go_wp2
              go_quiet (fail)
              go_wp2
              go_ret
              exact ⟨ret_i HX.out.symm, _, World.drewN_drewN _ _ _⟩
            · have t3 : decide (x ≤ y) = false := by simpa using c3
              have HN := Lib.hid (HNY.out.2 ⟨⟨by omega, by omega⟩, by omega⟩)
              clear hk0
              go_wp2
              go_quiet (fail)
              go_wp2
              go_roundw
              case rel => exact ⟨k + 1, _, by go_num, hlt, HN, rfl⟩
              case measure => simp [intOf]; omega
      · have HNY : Hid (RightS n (l.take (k + 1)) ↔ (0 ≤ l[k] ∧ l[k] < n)) := Lib.hid (HNx.out.trans ⟨fun e => e.1, fun e => ⟨e, fun h => absurd h hk0⟩⟩)
        clear HNx
        generalize l[k] = x at *
        obtain rfl : k = 0 := by omega
        unfold encZ at hc
        rw [Nat.add_zero] at hc
        have i4 : (0 : Int) < (l.length : Int) := by omega
        have d0 : decide ((0 : Int) < 0) = false := by decide
        by_cases c1 : x < 0
        · have HX := Lib.hid (HBad.out (fun e => by have := HNY.out.1 e; omega))
          have t1 : decide (x < 0) = true := by simpa using c1
          clear hk0
          go_wp2
          go_quiet (fail)
          go_wp2
          go_ret
          exact ⟨ret_i HX.out.symm, _, World.drewN_drewN _ _ _⟩
        · have t1 : decide (x < 0) = false := by simpa using c1
          by_cases c2 : n ≤ x
          · have HX := Lib.hid (HBad.out (fun e => by have := HNY.out.1 e; omega))
            have t2 : decide (n ≤ x) = true := by simpa using c2
            clear hk0
            go_wp2
            go_quiet (fail)
            go_wp2
            go_ret
            exact ⟨ret_i HX.out.symm, _, World.drewN_drewN _ _ _⟩
          · have t2 : decide (n ≤ x) = false := by simpa using c2
            have HN := Lib.hid (HNY.out.2 ⟨by omega, by omega⟩)
            clear hk0
            go_wp2
            go_quiet (fail)
            go_wp2
            go_roundw
            case rel => exact ⟨1, _, by go_num, hlt, HN, rfl⟩
            case measure => simp [intOf]; omega
    · have hkl : k = l.length := by omega
      have HT : Hid (RightS n l) := Lib.hid (by have := HK.out; rwa [hkl, List.take_length] at this)
      have HC := Lib.hid (chk_good HT.out)
      by_cases h0 : l.length = 0
      · have HX : Hid (chkS n l = 16) := Lib.hid (by rw [HC.out, if_pos (Or.inl (List.length_eq_zero_iff.1 h0))])
        have t0 : ((l.length : Int) == 0) = true := by simp [h0]
        clear hkl h0
        go_wp2
        go_ret
        exact ⟨ret_i HX.out.symm, _, rfl⟩
      · have t0 : ((l.length : Int) == 0) = false := by
          have : ¬ (l.length : Int) = 0 := by omega
          simpa using this
        by_cases h1 : (l.length : Int) = n
        · have HX : Hid (chkS n l = 16) := Lib.hid (by rw [HC.out, if_pos (Or.inr h1)])
          have t1 : ((l.length : Int) == n) = true := by simpa using h1
          clear hkl h0 h1
          go_wp2
          go_ret
          exact ⟨ret_i HX.out.symm, _, rfl⟩
        · have HX : Hid (chkS n l = 0) := Lib.hid (by rw [HC.out, if_neg (fun e => e.elim (fun e => h0 (by rw [e]; rfl)) h1)])
          have t1 : ((l.length : Int) == n) = false := by simpa using h1
          clear hkl h0 h1
          go_wp2
          go_ret
          exact ⟨ret_i HX.out.symm, _, rfl⟩
end Go.Proofs.Ytbankocbncpepaa.Sd
