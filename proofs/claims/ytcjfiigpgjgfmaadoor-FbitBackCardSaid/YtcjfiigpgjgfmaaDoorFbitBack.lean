/- What fbit makes of a float's parts, and its sign, is that float; a number that is made has parts that are it. Conditions: none: every word of 64 bits, every uint32, every int16; the library's table of de Bruijn holds what the program's text lays into it, and the card ties that to the text. -/
import Derived.Test.YtcjfiigpgjgfmaaDoorFbitLaid
import Derived.Test.YtcjfiigpgjgfmaaDoorTie
import Derived.Test.YtcjfiigpgjgfmaaDoorCards
import Derived.SevenTiedAt
namespace Go.Proofs.YtcjfiigpgjgfmaaDoor.fbitBack
open Go.ChangeShapes Go.WideShapes Go.ChangeAt Go.RowKit FbitPure
set_option maxHeartbeats 400000 in
theorem walk1 (b m : Nat) (e : Int) (hb : (b : Int) ≤ 18446744073709551615) (hm : (m : Int) ≤ 4294967295) (he1 : -32768 ≤ e) (he2 : e ≤ 32767) (w : World) (hT : TabAt 1 Lib.deBruijn64tab w) (hp : partOk b = false) (hk : makeOk m e = false) :
    Calls Tryd.prog 5 #[.int .u64 b, .int .u32 m, .int .i16 e] w fun e w' => e = .returned (.bool true) ∧ Below w.heap.size w w' := by
  have HT := Lib.hid hT
  clear hT
  have hm' : m < 18446744073709551616 := by omega
  obtain ⟨pb1, pb2, pb3⟩ := part_bounds b
  have pb4 : partM b < 18446744073709551616 := by omega
  clear pb1
  have hk2 : kindN b < 2 := by unfold partOk at hp; simpa using hp
  have N1 := Lib.hid (part_none b hk2).1
  have N2 := Lib.hid (part_none b hk2).2.1
  have HK := Lib.hid hk
  clear hk hk2
  go_enter Tryd.func5, Tryd.ntmps5
  go_wp2_with (first
    | (go_at_call 6; refine (of_any _ _).mono ?_; rintro e w' ⟨rfl, rfl⟩)
    | (go_at_call 7; refine (parts_any _ hb _ HT.out).mono ?_; rintro e w' ⟨rfl, rfl⟩)
    | (go_at_call 12; refine (neg_any _ hb _).mono ?_; rintro e w' ⟨rfl, rfl⟩))
  refine (make_any _ _ _ pb4 (by omega) (by omega) _ HT.out).mono ?_
  rintro en w' ⟨rfl, rfl⟩
  have n1 := N1.out
  have n2 := N2.out
  go_wp2_with fail
  clear n1 n2
  refine (make_any _ _ _ hm' (by omega) (by omega) _ HT.out).mono ?_
  rintro en w' ⟨rfl, rfl⟩
  go_wp2_with fail
  refine (made_any _ _ hm' _ HT.out).mono ?_
  rintro en w' ⟨rfl, rfl⟩
  have hk := HK.out
  go_wp2_with (first
    | (go_at_call 8; refine (zero_any _ _ hk _).mono ?_; rintro e w' ⟨rfl, rfl⟩)
    | (go_at_call 15; refine (awake_any _ HT.out).mono ?_; rintro e w' ⟨rfl, rfl⟩))
  go_ret
  exact ⟨rfl, Below.refl _ _⟩
set_option maxHeartbeats 400000 in
theorem walk2 (b m : Nat) (e : Int) (hb : (b : Int) ≤ 18446744073709551615) (hm : (m : Int) ≤ 4294967295) (he1 : -32768 ≤ e) (he2 : e ≤ 32767) (w : World) (hT : TabAt 1 Lib.deBruijn64tab w) (hp : partOk b = true) (hk : makeOk m e = false) :
    Calls Tryd.prog 5 #[.int .u64 b, .int .u32 m, .int .i16 e] w fun e w' => e = .returned (.bool true) ∧ Below w.heap.size w w' := by
  have HT := Lib.hid hT
  clear hT
  have hm' : m < 18446744073709551616 := by omega
  obtain ⟨pb1, pb2, pb3⟩ := part_bounds b
  have pb4 : partM b < 18446744073709551616 := by omega
  clear pb1
  have bw := (back_word b (by omega) hp).1
  have HK := Lib.hid hk
  clear hk
  go_enter Tryd.func5, Tryd.ntmps5
  go_wp2_with (first
    | (go_at_call 6; refine (of_any _ _).mono ?_; rintro e w' ⟨rfl, rfl⟩)
    | (go_at_call 7; refine (parts_any _ hb _ HT.out).mono ?_; rintro e w' ⟨rfl, rfl⟩)
    | (go_at_call 12; refine (neg_any _ hb _).mono ?_; rintro e w' ⟨rfl, rfl⟩))
  refine (make_any _ _ _ pb4 (by omega) (by omega) _ HT.out).mono ?_
  rintro en w' ⟨rfl, rfl⟩
  go_wp2_with (first | (go_at_call 8; refine (back_any _ hb hp _).mono ?_; rintro e w' ⟨rfl, rfl⟩))
  refine (make_any _ _ _ hm' (by omega) (by omega) _ HT.out).mono ?_
  rintro en w' ⟨rfl, rfl⟩
  go_wp2_with fail
  refine (made_any _ _ hm' _ HT.out).mono ?_
  rintro en w' ⟨rfl, rfl⟩
  have hk := HK.out
  go_wp2_with (first
    | (go_at_call 8; refine (zero_any _ _ hk _).mono ?_; rintro e w' ⟨rfl, rfl⟩)
    | (go_at_call 15; refine (awake_any _ HT.out).mono ?_; rintro e w' ⟨rfl, rfl⟩))
  go_ret
  exact ⟨rfl, Below.refl _ _⟩
set_option maxHeartbeats 400000 in
theorem walk3 (b m : Nat) (e : Int) (hb : (b : Int) ≤ 18446744073709551615) (hm : (m : Int) ≤ 4294967295) (he1 : -32768 ≤ e) (he2 : e ≤ 32767) (w : World) (hT : TabAt 1 Lib.deBruijn64tab w) (hp : partOk b = false) (hk : makeOk m e = true) (h00 : m = 0) :
    Calls Tryd.prog 5 #[.int .u64 b, .int .u32 m, .int .i16 e] w fun e w' => e = .returned (.bool true) ∧ Below w.heap.size w w' := by
  have H0 := Lib.hid h00
  clear h00
  have HT := Lib.hid hT
  clear hT
  have hm' : m < 18446744073709551616 := by omega
  obtain ⟨pb1, pb2, pb3⟩ := part_bounds b
  have pb4 : partM b < 18446744073709551616 := by omega
  clear pb1
  have hk2 : kindN b < 2 := by unfold partOk at hp; simpa using hp
  have N1 := Lib.hid (part_none b hk2).1
  have N2 := Lib.hid (part_none b hk2).2.1
  have HK := Lib.hid hk
  clear hk hk2
  go_enter Tryd.func5, Tryd.ntmps5
  go_wp2_with (first
    | (go_at_call 6; refine (of_any _ _).mono ?_; rintro e w' ⟨rfl, rfl⟩)
    | (go_at_call 7; refine (parts_any _ hb _ HT.out).mono ?_; rintro e w' ⟨rfl, rfl⟩)
    | (go_at_call 12; refine (neg_any _ hb _).mono ?_; rintro e w' ⟨rfl, rfl⟩))
  refine (make_any _ _ _ pb4 (by omega) (by omega) _ HT.out).mono ?_
  rintro en w' ⟨rfl, rfl⟩
  have n1 := N1.out
  have n2 := N2.out
  go_wp2_with fail
  clear n1 n2
  refine (make_any _ _ _ hm' (by omega) (by omega) _ HT.out).mono ?_
  rintro en w' ⟨rfl, rfl⟩
  go_wp2_with fail
  refine (made_any _ _ hm' _ HT.out).mono ?_
  rintro en w' ⟨rfl, rfl⟩
  have hk := HK.out
  have g1 : partM (makeW false 0 e) = 0 := by rw [(make_nought false e).1]; exact part_zero.1
  have g2 : partE (makeW false 0 e) = 0 := by rw [(make_nought false e).1]; exact part_zero.2.1
  have g3 : partOk (makeW false 0 e) = true := by rw [(make_nought false e).1]; exact part_zero.2.2
  have g4 : partM (makeW false m e) = 0 := by rw [H0.out]; exact g1
  have g5 : partE (makeW false m e) = 0 := by rw [H0.out]; exact g2
  have g6 : partOk (makeW false m e) = true := by rw [H0.out]; exact g3
  go_wp2
  go_loop [1, 2, 18] (fun x y z => x = .int .u32 (m : Int) ∧ y = .int .i16 e ∧ z = .int .i64 0) (fun _ _ _ => 0)
  case atStart => exact ⟨rfl, rfl, rfl⟩
  case round =>
    obtain ⟨rfl, rfl, rfl⟩ := hrel
    have hz := H0.out
    go_wp2_with (first | (go_at_call 15; refine (awake_any _ HT.out).mono ?_; rintro e w' ⟨rfl, rfl⟩))
    go_ret
    exact ⟨rfl, Below.refl _ _⟩
set_option maxHeartbeats 400000 in
theorem walk4 (b m : Nat) (e : Int) (hb : (b : Int) ≤ 18446744073709551615) (hm : (m : Int) ≤ 4294967295) (he1 : -32768 ≤ e) (he2 : e ≤ 32767) (w : World) (hT : TabAt 1 Lib.deBruijn64tab w) (hp : partOk b = true) (hk : makeOk m e = true) (h00 : m = 0) :
    Calls Tryd.prog 5 #[.int .u64 b, .int .u32 m, .int .i16 e] w fun e w' => e = .returned (.bool true) ∧ Below w.heap.size w w' := by
  have H0 := Lib.hid h00
  clear h00
  have HT := Lib.hid hT
  clear hT
  have hm' : m < 18446744073709551616 := by omega
  obtain ⟨pb1, pb2, pb3⟩ := part_bounds b
  have pb4 : partM b < 18446744073709551616 := by omega
  clear pb1
  have bw := (back_word b (by omega) hp).1
  have HK := Lib.hid hk
  clear hk
  go_enter Tryd.func5, Tryd.ntmps5
  go_wp2_with (first
    | (go_at_call 6; refine (of_any _ _).mono ?_; rintro e w' ⟨rfl, rfl⟩)
    | (go_at_call 7; refine (parts_any _ hb _ HT.out).mono ?_; rintro e w' ⟨rfl, rfl⟩)
    | (go_at_call 12; refine (neg_any _ hb _).mono ?_; rintro e w' ⟨rfl, rfl⟩))
  refine (make_any _ _ _ pb4 (by omega) (by omega) _ HT.out).mono ?_
  rintro en w' ⟨rfl, rfl⟩
  go_wp2_with (first | (go_at_call 8; refine (back_any _ hb hp _).mono ?_; rintro e w' ⟨rfl, rfl⟩))
  refine (make_any _ _ _ hm' (by omega) (by omega) _ HT.out).mono ?_
  rintro en w' ⟨rfl, rfl⟩
  go_wp2_with fail
  refine (made_any _ _ hm' _ HT.out).mono ?_
  rintro en w' ⟨rfl, rfl⟩
  have hk := HK.out
  have g1 : partM (makeW false 0 e) = 0 := by rw [(make_nought false e).1]; exact part_zero.1
  have g2 : partE (makeW false 0 e) = 0 := by rw [(make_nought false e).1]; exact part_zero.2.1
  have g3 : partOk (makeW false 0 e) = true := by rw [(make_nought false e).1]; exact part_zero.2.2
  have g4 : partM (makeW false m e) = 0 := by rw [H0.out]; exact g1
  have g5 : partE (makeW false m e) = 0 := by rw [H0.out]; exact g2
  have g6 : partOk (makeW false m e) = true := by rw [H0.out]; exact g3
  go_wp2
  go_loop [1, 2, 18] (fun x y z => x = .int .u32 (m : Int) ∧ y = .int .i16 e ∧ z = .int .i64 0) (fun _ _ _ => 0)
  case atStart => exact ⟨rfl, rfl, rfl⟩
  case round =>
    obtain ⟨rfl, rfl, rfl⟩ := hrel
    have hz := H0.out
    go_wp2_with (first | (go_at_call 15; refine (awake_any _ HT.out).mono ?_; rintro e w' ⟨rfl, rfl⟩))
    go_ret
    exact ⟨rfl, Below.refl _ _⟩
set_option maxHeartbeats 400000 in
theorem walk5 (b m : Nat) (e : Int) (hb : (b : Int) ≤ 18446744073709551615) (hm : (m : Int) ≤ 4294967295) (he1 : -32768 ≤ e) (he2 : e ≤ 32767) (w : World) (hT : TabAt 1 Lib.deBruijn64tab w) (hp : partOk b = false) (hk : makeOk m e = true) (h0 : m ≠ 0) :
    Calls Tryd.prog 5 #[.int .u64 b, .int .u32 m, .int .i16 e] w fun e w' => e = .returned (.bool true) ∧ Below w.heap.size w w' := by
  have HT := Lib.hid hT
  clear hT
  have hm' : m < 18446744073709551616 := by omega
  obtain ⟨pb1, pb2, pb3⟩ := part_bounds b
  have pb4 : partM b < 18446744073709551616 := by omega
  clear pb1
  have hk2 : kindN b < 2 := by unfold partOk at hp; simpa using hp
  have N1 := Lib.hid (part_none b hk2).1
  have N2 := Lib.hid (part_none b hk2).2.1
  have HK := Lib.hid hk
  clear hk hk2
  go_enter Tryd.func5, Tryd.ntmps5
  go_wp2_with (first
    | (go_at_call 6; refine (of_any _ _).mono ?_; rintro e w' ⟨rfl, rfl⟩)
    | (go_at_call 7; refine (parts_any _ hb _ HT.out).mono ?_; rintro e w' ⟨rfl, rfl⟩)
    | (go_at_call 12; refine (neg_any _ hb _).mono ?_; rintro e w' ⟨rfl, rfl⟩))
  refine (make_any _ _ _ pb4 (by omega) (by omega) _ HT.out).mono ?_
  rintro en w' ⟨rfl, rfl⟩
  have n1 := N1.out
  have n2 := N2.out
  go_wp2_with fail
  clear n1 n2
  refine (make_any _ _ _ hm' (by omega) (by omega) _ HT.out).mono ?_
  rintro en w' ⟨rfl, rfl⟩
  go_wp2_with fail
  refine (made_any _ _ hm' _ HT.out).mono ?_
  rintro en w' ⟨rfl, rfl⟩
  have hk := HK.out
  obtain ⟨g3, g1, g2, g4, g5⟩ := make_parts m e hm' h0 hk
  have G1 := Lib.hid g1
  have G2 := Lib.hid g2
  have ht := tz_lt32 m h0 (by omega)
  have HS : Hid (TwoRel m e m e ∧ e = e + ((0 : Nat) : Int)) := Lib.hid ⟨TwoRel.start e h0 hm', by omega⟩
  clear g1 g2
  go_wp2
  go_loop [1, 2, 18] (fun x y z => ∃ (n : Nat) (k : Int) (i : Nat), Hid (TwoRel m e n k ∧ k = e + (i : Int)) ∧ x = .int .u32 (n : Int) ∧ y = .int .i16 k ∧ z = .int .i64 (i : Int)) (fun x _ _ => (intOf x).toNat)
  case atStart => exact ⟨_, _, 0, HS, rfl, rfl, rfl⟩
  case round =>
    obtain ⟨n, k, i, HR, rfl, rfl, rfl⟩ := hrel
    obtain ⟨⟨n1, n2, n3, n4, n5, n6⟩, n7⟩ := HR.out
    have hn0 : 0 < n := by omega
    by_cases hn : n % 2 = 0
    · have t : ((n : Int) % 2 == 0) = true := by simp; omega
      obtain ⟨o1, o2⟩ := od_even n n2 n1 hn
      have HN : Hid (TwoRel m e (n / 2) (k + 1) ∧ k + 1 = e + ((i + 1 : Nat) : Int)) := Lib.hid ⟨HR.out.1.step h0 hm' hn, by omega⟩
      have hi : i < 31 := by omega
      have hnm : n < 4294967296 := by
        obtain ⟨d1, d2, d3⟩ := od_spec n n1 n2
        obtain ⟨c1, c2, c3⟩ := od_spec m h0 hm'
        have : tz n ≤ tz m := by omega
        have a1 : 2 ^ tz n ≤ 2 ^ tz m := Nat.pow_le_pow_right (by decide) this
        have a2 : od n * 2 ^ tz n ≤ od m * 2 ^ tz m := by rw [n3]; exact Nat.mul_le_mul_left _ a1
        omega
      have hk1 : -1200 ≤ k ∧ k ≤ 1100 := by omega
      obtain ⟨hk1, hk2⟩ := hk1
      clear hn o1 o2 n1 n2 n3 n4 n5 n6 n7 HR
      go_wp2
      go_round
      case rel => exact ⟨n / 2, k + 1, i + 1, HN, by go_num, rfl, by go_num⟩
      case measure => simp [intOf]; omega
    · have t : ((n : Int) % 2 == 0) = false := by simp; omega
      obtain ⟨d1, d2⟩ := HR.out.1.done (by omega)
      have g1 : partM (makeW false m e) = n := by rw [G1.out, d1]
      have g2 : partE (makeW false m e) = k := by rw [G2.out, d2]
      have hi : i < 32 := by omega
      have hnm : n < 4294967296 := by
        have := od_lt m
        omega
      have hk1 : -1200 ≤ k ∧ k ≤ 1100 := by omega
      obtain ⟨hk1, hk2⟩ := hk1
      clear hn n1 n2 n3 n4 n5 n6 n7 HR d1 d2
      go_wp2_with (first | (go_at_call 15; refine (awake_any _ HT.out).mono ?_; rintro e w' ⟨rfl, rfl⟩))
      go_ret
      exact ⟨rfl, Below.refl _ _⟩
set_option maxHeartbeats 400000 in
theorem walk6 (b m : Nat) (e : Int) (hb : (b : Int) ≤ 18446744073709551615) (hm : (m : Int) ≤ 4294967295) (he1 : -32768 ≤ e) (he2 : e ≤ 32767) (w : World) (hT : TabAt 1 Lib.deBruijn64tab w) (hp : partOk b = true) (hk : makeOk m e = true) (h0 : m ≠ 0) :
    Calls Tryd.prog 5 #[.int .u64 b, .int .u32 m, .int .i16 e] w fun e w' => e = .returned (.bool true) ∧ Below w.heap.size w w' := by
  have HT := Lib.hid hT
  clear hT
  have hm' : m < 18446744073709551616 := by omega
  obtain ⟨pb1, pb2, pb3⟩ := part_bounds b
  have pb4 : partM b < 18446744073709551616 := by omega
  clear pb1
  have bw := (back_word b (by omega) hp).1
  have HK := Lib.hid hk
  clear hk
  go_enter Tryd.func5, Tryd.ntmps5
  go_wp2_with (first
    | (go_at_call 6; refine (of_any _ _).mono ?_; rintro e w' ⟨rfl, rfl⟩)
    | (go_at_call 7; refine (parts_any _ hb _ HT.out).mono ?_; rintro e w' ⟨rfl, rfl⟩)
    | (go_at_call 12; refine (neg_any _ hb _).mono ?_; rintro e w' ⟨rfl, rfl⟩))
  refine (make_any _ _ _ pb4 (by omega) (by omega) _ HT.out).mono ?_
  rintro en w' ⟨rfl, rfl⟩
  go_wp2_with (first | (go_at_call 8; refine (back_any _ hb hp _).mono ?_; rintro e w' ⟨rfl, rfl⟩))
  refine (make_any _ _ _ hm' (by omega) (by omega) _ HT.out).mono ?_
  rintro en w' ⟨rfl, rfl⟩
  go_wp2_with fail
  refine (made_any _ _ hm' _ HT.out).mono ?_
  rintro en w' ⟨rfl, rfl⟩
  have hk := HK.out
  obtain ⟨g3, g1, g2, g4, g5⟩ := make_parts m e hm' h0 hk
  have G1 := Lib.hid g1
  have G2 := Lib.hid g2
  have ht := tz_lt32 m h0 (by omega)
  have HS : Hid (TwoRel m e m e ∧ e = e + ((0 : Nat) : Int)) := Lib.hid ⟨TwoRel.start e h0 hm', by omega⟩
  clear g1 g2
  go_wp2
  go_loop [1, 2, 18] (fun x y z => ∃ (n : Nat) (k : Int) (i : Nat), Hid (TwoRel m e n k ∧ k = e + (i : Int)) ∧ x = .int .u32 (n : Int) ∧ y = .int .i16 k ∧ z = .int .i64 (i : Int)) (fun x _ _ => (intOf x).toNat)
  case atStart => exact ⟨_, _, 0, HS, rfl, rfl, rfl⟩
  case round =>
    obtain ⟨n, k, i, HR, rfl, rfl, rfl⟩ := hrel
    obtain ⟨⟨n1, n2, n3, n4, n5, n6⟩, n7⟩ := HR.out
    have hn0 : 0 < n := by omega
    by_cases hn : n % 2 = 0
    · have t : ((n : Int) % 2 == 0) = true := by simp; omega
      obtain ⟨o1, o2⟩ := od_even n n2 n1 hn
      have HN : Hid (TwoRel m e (n / 2) (k + 1) ∧ k + 1 = e + ((i + 1 : Nat) : Int)) := Lib.hid ⟨HR.out.1.step h0 hm' hn, by omega⟩
      have hi : i < 31 := by omega
      have hnm : n < 4294967296 := by
        obtain ⟨d1, d2, d3⟩ := od_spec n n1 n2
        obtain ⟨c1, c2, c3⟩ := od_spec m h0 hm'
        have : tz n ≤ tz m := by omega
        have a1 : 2 ^ tz n ≤ 2 ^ tz m := Nat.pow_le_pow_right (by decide) this
        have a2 : od n * 2 ^ tz n ≤ od m * 2 ^ tz m := by rw [n3]; exact Nat.mul_le_mul_left _ a1
        omega
      have hk1 : -1200 ≤ k ∧ k ≤ 1100 := by omega
      obtain ⟨hk1, hk2⟩ := hk1
      clear hn o1 o2 n1 n2 n3 n4 n5 n6 n7 HR
      go_wp2
      go_round
      case rel => exact ⟨n / 2, k + 1, i + 1, HN, by go_num, rfl, by go_num⟩
      case measure => simp [intOf]; omega
    · have t : ((n : Int) % 2 == 0) = false := by simp; omega
      obtain ⟨d1, d2⟩ := HR.out.1.done (by omega)
      have g1 : partM (makeW false m e) = n := by rw [G1.out, d1]
      have g2 : partE (makeW false m e) = k := by rw [G2.out, d2]
      have hi : i < 32 := by omega
      have hnm : n < 4294967296 := by
        have := od_lt m
        omega
      have hk1 : -1200 ≤ k ∧ k ≤ 1100 := by omega
      obtain ⟨hk1, hk2⟩ := hk1
      clear hn n1 n2 n3 n4 n5 n6 n7 HR d1 d2
      go_wp2_with (first | (go_at_call 15; refine (awake_any _ HT.out).mono ?_; rintro e w' ⟨rfl, rfl⟩))
      go_ret
      exact ⟨rfl, Below.refl _ _⟩
theorem walk (b m : Nat) (e : Int) (hb : (b : Int) ≤ 18446744073709551615) (hm : (m : Int) ≤ 4294967295) (he1 : -32768 ≤ e) (he2 : e ≤ 32767) (w : World) (hT : TabAt 1 Lib.deBruijn64tab w) :
    Calls Tryd.prog 5 #[.int .u64 b, .int .u32 m, .int .i16 e] w fun e w' => e = .returned (.bool true) ∧ Below w.heap.size w w' := by
  cases hp : partOk b <;> cases hk : makeOk m e
  · exact walk1 b m e hb hm he1 he2 w hT hp hk
  · by_cases h0 : m = 0
    · exact walk3 b m e hb hm he1 he2 w hT hp hk h0
    · exact walk5 b m e hb hm he1 he2 w hT hp hk h0
  · exact walk2 b m e hb hm he1 he2 w hT hp hk
  · by_cases h0 : m = 0
    · exact walk4 b m e hb hm he1 he2 w hT hp hk h0
    · exact walk6 b m e hb hm he1 he2 w hT hp hk h0
set_option maxRecDepth 100000 in
theorem lifted (os : Os) (started : os.Started) (H : Type) (enc : TypeId × Value → H) :
    ReturnsInHanded {} Tryd.checked os 5 .any (fun w args => (Rows.fbitBackSpec.pre enc Tryd.prog Tryd.f5 [] false w args ∧ laidMetH Tryd.prog Rows.fbitTellsRow.laid w) ∧ sizedMet enc Tryd.prog Tryd.f5 (OpenSpec.ofChange Rows.fbitBackSpec) false w args)
      (Rows.fbitBackSpec.post enc Tryd.prog Tryd.f5 false true false false) := by
  refine returnsInHanded_of_change_and (C := Tryd.checked) (X := fun w _ => laidMetH Tryd.prog Rows.fbitTellsRow.laid w) (fun _ _ _ hh h => h.of_heap hh) own started (by kernel_rfl) Tryd.func5
    (ChangeSpec.witness_at (enc := enc) (C := Tryd.checked) (os := os) (X := fun w _ => laidMetH Tryd.prog Rows.fbitTellsRow.laid w) false (laidWorld Tryd.prog os) #[.int .u64 0, .int .u32 0, .int .i16 0] 8 rfl (by kernel_rfl) (by kernel_rfl) (by kernel_rfl) (by kernel_rfl) (by kernel_rfl) (laid_met os _)) ?_
  intro W base args ds gs before hval0 hW _ _ hL _
  have hval : ∀ (j : Nat) t v, Tryd.f5.params[j]? = some t → args[j]? = some v → Value.okWide Tryd.prog W .any base t v := hval0
  have hW' := hW
  obtain ⟨p, q, hA0, hV, rfl, hfz, hnd⟩ := hW
  have hA : DataW.TrodAll enc Tryd.prog W 0 (fun _ => true) true Tryd.f5.params.toList args.toList ds p := hA0
  rw [Tryd.params5] at hA hval
  obtain ⟨v0, vs0, d0, ds0, p0, q0, hargs, rfl, rfl, h0, r0⟩ := trodAll_cons hA
  obtain ⟨v1, vs1, d1, ds1, p1, q1, rfl, rfl, rfl, h1, r1⟩ := trodAll_cons r0
  obtain ⟨v2, vs2, d2, ds2, p2, q2, rfl, rfl, rfl, h2, r2⟩ := trodAll_cons r1
  obtain ⟨rfl, rfl, rfl⟩ := trodAll_nil r2
  obtain rfl : args = #[v0, v1, v2] := by cases args; simp_all
  obtain ⟨rfl, rfl⟩ := trodVars_none hV
  obtain ⟨a0, rfl, rfl, rfl, w0⟩ := open_int Tryd.underlying22 (hval 0 22 v0 rfl rfl) h0
  obtain ⟨a1, rfl, rfl, rfl, w1⟩ := open_int Tryd.underlying44 (hval 1 44 v1 rfl rfl) h1
  obtain ⟨a2, rfl, rfl, rfl, w2⟩ := open_int Tryd.underlying45 (hval 2 45 v2 rfl rfl) h2
  clear hA0 hval0
  simp only [List.append_nil] at hW'
  have hb := bounds_u64 w0
  have hm := bounds_u32 w1
  have he := bounds_i16 w2
  obtain ⟨b, rfl⟩ := Int.eq_ofNat_of_zero_le hb.1
  obtain ⟨m, rfl⟩ := Int.eq_ofNat_of_zero_le hm.1
  refine (walk b m a2 hb.2 hm.2 he.1 he.2 W (tab_of_laid hL)).mono fun e W' ⟨he, bel⟩ => ?_
  subst he
  exact ⟨_, rfl, _, _, _, [], [], [], hW', trodAll_mk1 (shut_bool Tryd.underlying4 _), (trodAll_cons_mk (shut_int Tryd.underlying22 w0) (trodAll_cons_mk (shut_int Tryd.underlying44 w1) (trodAll_cons_mk (shut_int Tryd.underlying45 w2) trodAll_mk0))), rfl, bel.frame _, fun h => by cases h⟩
theorem over : Rows.fbitBackRow.holds Tryd.pinned (OpenSpec.ofChange Rows.fbitBackSpec) :=
  OpenClaim.holds_of_wide 5 Tryd.f5 rfl rfl rfl rfl rfl rfl rfl ⟨rfl, rfl, rfl, rfl, rfl⟩ rfl rfl rfl rfl rfl (by kernel_rfl) Tryd.func5 (by kernel_rfl)
    (of_decide_eq_true (by kernel_rfl)) (by unfold Func.isWrapper; first | (rw [if_pos (by decide +kernel)]; kernel_rfl) | (rw [if_neg (by decide +kernel)]; exact ⟨rfl, rfl⟩))
    (fun os started H enc _ => lifted os started H enc)
/-- The statement: the tied card. -/
theorem proved : Rows.FbitBackCardSaid :=
  Claim7.holds_tied_plain_at .later [] [.data] true Rows.fbitBackCard.stood.harness false
    over (fun _ h => by cases h) (by kernel_rfl) (fun _ h => by cases h) fbitBack_row_tie rfl ⟨rfl, rfl⟩ (by kernel_rfl) rfl
    (fun f fn hf hfn => by
      obtain rfl : f = 5 := Option.some.inj ((show Tryd.prog.funcNamed Rows.fbitBackRow.func = some 5 by kernel_rfl).symm.trans hf) |>.symm
      obtain rfl : fn = Tryd.f5 := (Option.some.inj (Tryd.func5.symm.trans hfn)).symm
      exact ⟨by kernel_rfl, fun j t ht => by
        rw [Tryd.params5] at ht
        have hall : ∀ t ∈ #[22, 44, 45], Tryd.prog.wantsStandIn t = false := by decide +kernel
        exact hall t (Array.mem_of_getElem? ht)⟩)
    (by kernel_rfl)
#print axioms proved
end Go.Proofs.YtcjfiigpgjgfmaaDoor.fbitBack
