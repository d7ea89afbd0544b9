/- Contracts of package fbit's functions, at every argument. -/
import Derived.Laws.Externs
import Derived.WalkLawsBesides
import Derived.Test.YtopniihomjakoaaDoorKit
import Derived.Test.YtopniihomjakoaaDoorFbitPure
import Derived.Test.YtopniihomjakoaaDoorFbitShelf
namespace Go.Proofs.YtopniihomjakoaaDoor
open Go.RowKit Go.ChangeShapes FbitPure
theorem run_bits (b : Nat) (w : World) : (callFunc 30 #[.float .f64 b]).run Tryd.prog w = .ok (.value (.int .u64 b)) w := by
  rw [run_callFunc_extern (e := Go.Extern.MathFloatBits.float64bits) Tryd.func30 (by kernel_rfl) (by kernel_rfl) (by kernel_rfl) (by kernel_rfl)]
  rfl
theorem run_from (n : Nat) (w : World) : (callFunc 31 #[.int .u64 n]).run Tryd.prog w = .ok (.value (.float .f64 n)) w := by
  rw [run_callFunc_extern (e := Go.Extern.MathFloatBits.float64frombits) Tryd.func31 (by kernel_rfl) (by kernel_rfl) (by kernel_rfl) (by kernel_rfl)]
  rfl
theorem of_any (b : Nat) (w : World) :
    Calls Tryd.prog 18 #[.int .u64 b] w fun e w' => e = .returned (.float .f64 b) ∧ w = w' := by
  have hd := run_from b
  go_enter Tryd.func18, Tryd.ntmps18
  go_wp2
  go_ret
  exact ⟨rfl, rfl⟩
theorem ret_bii {k l : IntKind} {a b : Bool} {c d m n : Int} (h1 : a = b) (h2 : c = d) (h3 : m = n) : Ending.returned (.tuple #[.bool a, .int k c, .int l m]) = .returned (.tuple #[.bool b, .int k d, .int l n]) := by rw [h1, h2, h3]
theorem ret_iib {k l : IntKind} {a b : Bool} {c d m n : Int} (h2 : c = d) (h3 : m = n) (h1 : a = b) : Ending.returned (.tuple #[.int k c, .int l m, .bool a]) = .returned (.tuple #[.int k d, .int l n, .bool b]) := by rw [h1, h2, h3]
theorem ret_ii {k l : IntKind} {c d m n : Int} (h2 : c = d) (h3 : m = n) : Ending.returned (.tuple #[.int k c, .int l m]) = .returned (.tuple #[.int k d, .int l n]) := by rw [h2, h3]
theorem fields_any (b : Nat) (hb : (b : Int) ≤ 18446744073709551615) (w : World) :
    Calls Tryd.prog 43 #[.float .f64 b] w fun e w' => e = .returned (.tuple #[.bool (topB b), .int .i64 (eN b : Int), .int .u64 (fN b : Int)]) ∧ w = w' := by
  have hd := run_bits b
  have e1 := Lib.hid (and_s b hb)
  have e2 := Lib.hid (and_e b hb)
  have e3 := Lib.hid (and_f b hb)
  have e4 := Lib.hid (eN_lt b)
  go_enter Tryd.func43, Tryd.ntmps43
  go_wp2
  go_ret3
  exact ⟨ret_bii e1.out (by rw [e2.out]; have := e4.out; unfold wrap64; omega) e3.out, rfl⟩
theorem kind_any (b : Nat) (hb : (b : Int) ≤ 18446744073709551615) (w : World) :
    Calls Tryd.prog 29 #[.float .f64 b] w fun e w' => e = .returned (.int .i64 (kindN b)) ∧ w = w' := by
  have hk := kind_cases b
  rcases hk with ⟨h1, h2, h3⟩ | ⟨h1, h2, h3⟩ | ⟨h1, h2, h3⟩ | ⟨h1, h2, h3⟩ | ⟨h1, h2, h3⟩
  all_goals
    have h4 := Lib.hid h3
    clear h3
    go_enter Tryd.func29, Tryd.ntmps29
    go_wp2_with (first | (go_at_call 43; refine (fields_any _ hb _).mono ?_; rintro e w' ⟨rfl, rfl⟩))
    go_ret
    exact ⟨ret_i (by rw [h4.out]), rfl⟩
theorem of_int (z : Int) (hz : 0 ≤ z) (w : World) :
    Calls Tryd.prog 18 #[.int .u64 z] w fun e w' => e = .returned (.float .f64 z.toNat) ∧ w = w' := by
  obtain ⟨n, rfl⟩ := Int.eq_ofNat_of_zero_le hz
  exact of_any n w
theorem ret_f {a b : Nat} (h : a = b) : Ending.returned (.float .f64 a) = .returned (.float .f64 b) := by rw [h]
theorem bits_any (b : Nat) (hb : (b : Int) ≤ 18446744073709551615) (w : World) :
    Calls Tryd.prog 16 #[.float .f64 b] w fun e w' => e = .returned (.int .u64 (bitsN b : Int)) ∧ w = w' := by
  have hd := run_bits b
  by_cases h : kindN b = 0
  · have e1 := Lib.hid (show bitsN b = 9221120237041090560 from if_pos h)
    go_enter Tryd.func16, Tryd.ntmps16
    go_wp2_with (first | (go_at_call 29; refine (kind_any _ hb _).mono ?_; rintro e w' ⟨rfl, rfl⟩))
    go_ret
    exact ⟨ret_i (by rw [e1.out]; rfl), rfl⟩
  · have e1 := Lib.hid (show bitsN b = b from if_neg h)
    go_enter Tryd.func16, Tryd.ntmps16
    go_wp2_with (first | (go_at_call 29; refine (kind_any _ hb _).mono ?_; rintro e w' ⟨rfl, rfl⟩))
    go_ret
    exact ⟨ret_i (by rw [e1.out]), rfl⟩
theorem neg_any (b : Nat) (hb : (b : Int) ≤ 18446744073709551615) (w : World) :
    Calls Tryd.prog 48 #[.float .f64 b] w fun e w' => e = .returned (.bool (negB b)) ∧ w = w' := by
  have e1 := Lib.hid (show negB b = (topB b && decide (kindN b ≠ 0)) from rfl)
  cases ht : topB b
  · have e2 := Lib.hid ht
    go_enter Tryd.func48, Tryd.ntmps48
    go_wp2_with (first | (go_at_call 43; refine (fields_any _ hb _).mono ?_; rintro e w' ⟨rfl, rfl⟩) | (go_at_call 29; refine (kind_any _ hb _).mono ?_; rintro e w' ⟨rfl, rfl⟩))
    go_ret
    exact ⟨bool_ret (by rw [e1.out, e2.out]; rfl), rfl⟩
  · have e2 := Lib.hid ht
    by_cases h : kindN b = 0
    · have e3 := Lib.hid h
      go_enter Tryd.func48, Tryd.ntmps48
      go_wp2_with (first | (go_at_call 43; refine (fields_any _ hb _).mono ?_; rintro e w' ⟨rfl, rfl⟩) | (go_at_call 29; refine (kind_any _ hb _).mono ?_; rintro e w' ⟨rfl, rfl⟩))
      go_ret
      exact ⟨bool_ret (by rw [e1.out, e2.out, e3.out]; rfl), rfl⟩
    · have e3 := Lib.hid h
      go_enter Tryd.func48, Tryd.ntmps48
      go_wp2_with (first | (go_at_call 43; refine (fields_any _ hb _).mono ?_; rintro e w' ⟨rfl, rfl⟩) | (go_at_call 29; refine (kind_any _ hb _).mono ?_; rintro e w' ⟨rfl, rfl⟩))
      go_ret
      exact ⟨bool_ret (by rw [e1.out, e2.out]; simp [e3.out]), rfl⟩
theorem signed_any (neg : Bool) (b : Nat) (hb : b < 9223372036854775808) (w : World) :
    Calls Tryd.prog 39 #[.bool neg, .int .u64 b] w fun e w' => e = .returned (.float .f64 (b + signW neg)) ∧ w = w' := by
  cases neg
  · go_enter Tryd.func39, Tryd.ntmps39
    go_wp2_with (first | (go_at_call 18; refine (of_any _ _).mono ?_; rintro e w' ⟨rfl, rfl⟩))
    go_ret
    exact ⟨rfl, rfl⟩
  · have e1 := or_s b hb
    go_enter Tryd.func39, Tryd.ntmps39
    go_wp2_with (first | (go_at_call 18; refine (of_int _ (by omega) _).mono ?_; rintro e w' ⟨rfl, rfl⟩))
    go_ret
    exact ⟨ret_f (by unfold signW; simp; omega), rfl⟩
theorem tz_any (x : Nat) (hx : x < 18446744073709551616) (w : World) (hT : TabAt 1 Lib.deBruijn64tab w) :
    Calls Tryd.prog 46 #[.int .u64 x] w fun e w' => e = .returned (.int .i64 (tz x : Int)) ∧ w = w' :=
  (Tryd.bits_Tz64 x hx w (fun _ => hT)).mono fun _ _ ⟨h1, h2⟩ => ⟨h1, h2.symm⟩
theorem odd_any (x : Nat) (e : Int) (h0 : x ≠ 0) (hx : x < 18446744073709551616) (he1 : -9223372036854775808 ≤ e) (he2 : e ≤ 9223372036854775000) (w : World) (hT : TabAt 1 Lib.deBruijn64tab w) :
    Calls Tryd.prog 40 #[.int .u64 x, .int .i64 e] w fun en w' => en = .returned (.tuple #[.int .u64 (od x : Int), .int .i64 (e + tz x)]) ∧ w = w' := by
  obtain ⟨d1, d2, d3⟩ := od_spec x h0 hx
  have HT := Lib.hid hT
  clear hT d1 d2
  go_enter Tryd.func40, Tryd.ntmps40
  go_wp2_with (first | (go_at_call 46; refine (tz_any _ hx _ HT.out).mono ?_; rintro e w' ⟨rfl, rfl⟩))
  go_ret2
  exact ⟨ret_ii (by unfold od; rw [Int.natCast_ediv, Int.natCast_pow]; rfl) rfl, rfl⟩
theorem len_any (x : Nat) (hx : x < 18446744073709551616) (w : World) :
    Calls Tryd.prog 41 #[.int .u64 x] w fun e w' => e = .returned (.int .i64 (bl x : Int)) ∧ w = w' :=
  (Tryd.bits_Len64 x w (by omega) (by omega)).mono fun _ _ ⟨h1, h2⟩ => ⟨h1, h2.symm⟩
theorem packed_any (m : Nat) (e : Int) (h0 : m ≠ 0) (hm : m < 18446744073709551616) (h1 : bl m ≤ 53) (h2 : -1074 ≤ e) (h3 : e + bl m ≤ 1024) (w : World) :
    Calls Tryd.prog 42 #[.int .u64 m, .int .i64 e, .int .i64 (bl m : Int)] w fun en w' => en = .returned (.int .u64 (wordN m e : Int)) ∧ w = w' := by
  have p1 := Lib.hid (pack_val m e h0 hm h1 h2 h3)
  go_enter Tryd.func42, Tryd.ntmps42
  go_wp2
  go_ret
  exact ⟨ret_i p1.out, rfl⟩
theorem signed_int (neg : Bool) (z : Int) (hz : 0 ≤ z) (hb : z < 9223372036854775808) (w : World) :
    Calls Tryd.prog 39 #[.bool neg, .int .u64 z] w fun e w' => e = .returned (.float .f64 (z.toNat + signW neg)) ∧ w = w' := by
  obtain ⟨n, rfl⟩ := Int.eq_ofNat_of_zero_le hz
  exact signed_any neg n (by omega) w
theorem ret_fb {a b : Nat} {c d : Bool} (h1 : a = b) (h2 : c = d) : Ending.returned (.tuple #[.float .f64 a, .bool c]) = .returned (.tuple #[.float .f64 b, .bool d]) := by rw [h1, h2]
theorem make_any (neg : Bool) (m : Nat) (e : Int) (hm : m < 18446744073709551616) (he1 : -9223372036854775808 ≤ e) (he2 : e ≤ 9223372036854775807) (w : World) (hT : TabAt 1 Lib.deBruijn64tab w) :
    Calls Tryd.prog 26 #[.bool neg, .int .u64 m, .int .i64 e] w fun en w' => en = .returned (.tuple #[.float .f64 (makeW neg m e), .bool (makeOk m e)]) ∧ w = w' := by
  have HT := Lib.hid hT
  clear hT
  by_cases h0 : m = 0
  · subst h0
    have r := Lib.hid (make_nought neg e)
    go_enter Tryd.func26, Tryd.ntmps26
    go_wp2_with (first | (go_at_call 39; refine (signed_int _ _ (by omega) (by omega) _).mono ?_; rintro e w' ⟨rfl, rfl⟩))
    go_ret2
    exact ⟨ret_fb r.out.1.symm r.out.2.symm, rfl⟩
  obtain ⟨d1, d2, d3⟩ := od_spec m h0 hm
  have hml := od_lt m
  obtain ⟨g1, g2, g3, g4⟩ := bl_spec (od m) (by omega) (by omega)
  have hmo : od m < 18446744073709551616 := by omega
  have hm0 : od m ≠ 0 := by omega
  clear d1 d2 g1 g2
  by_cases he : 1023 < e
  · have r := Lib.hid (make_no neg m e h0 (okN_no _ _ (by omega)))
    go_enter Tryd.func26, Tryd.ntmps26
    go_wp2
    go_ret2
    exact ⟨ret_fb r.out.1.symm r.out.2.symm, rfl⟩
  by_cases h1 : 53 < bl (od m)
  · have r := Lib.hid (make_no neg m e h0 (okN_no _ _ (by omega)))
    go_enter Tryd.func26, Tryd.ntmps26
    go_wp2_with (first
      | (go_at_call 40; refine (odd_any _ _ h0 hm he1 (by omega) _ HT.out).mono ?_; rintro e w' ⟨rfl, rfl⟩)
      | (go_at_call 41; refine (len_any _ hmo _).mono ?_; rintro e w' ⟨rfl, rfl⟩))
    go_ret2
    exact ⟨ret_fb r.out.1.symm r.out.2.symm, rfl⟩
  by_cases h2 : e + tz m < -1074
  · have r := Lib.hid (make_no neg m e h0 (okN_no _ _ (by omega)))
    go_enter Tryd.func26, Tryd.ntmps26
    go_wp2_with (first
      | (go_at_call 40; refine (odd_any _ _ h0 hm he1 (by omega) _ HT.out).mono ?_; rintro e w' ⟨rfl, rfl⟩)
      | (go_at_call 41; refine (len_any _ hmo _).mono ?_; rintro e w' ⟨rfl, rfl⟩))
    go_ret2
    exact ⟨ret_fb r.out.1.symm r.out.2.symm, rfl⟩
  by_cases h3 : 1023 < e + tz m + bl (od m) - 1
  · have r := Lib.hid (make_no neg m e h0 (okN_no _ _ (by omega)))
    go_enter Tryd.func26, Tryd.ntmps26
    go_wp2_with (first
      | (go_at_call 40; refine (odd_any _ _ h0 hm he1 (by omega) _ HT.out).mono ?_; rintro e w' ⟨rfl, rfl⟩)
      | (go_at_call 41; refine (len_any _ hmo _).mono ?_; rintro e w' ⟨rfl, rfl⟩))
    go_ret2
    exact ⟨ret_fb r.out.1.symm r.out.2.symm, rfl⟩
  · have r := Lib.hid (make_yes neg m e h0 ((okN_iff _ _).2 (by omega)))
    have q := word_parts (od m) (e + tz m) hm0 hmo (by omega) (by omega) (by omega)
    have q1 := q.1
    clear q
    go_enter Tryd.func26, Tryd.ntmps26
    go_wp2_with (first
      | (go_at_call 40; refine (odd_any _ _ h0 hm he1 (by omega) _ HT.out).mono ?_; rintro e w' ⟨rfl, rfl⟩)
      | (go_at_call 41; refine (len_any _ hmo _).mono ?_; rintro e w' ⟨rfl, rfl⟩)
      | (go_at_call 42; refine (packed_any _ _ hm0 hmo (by omega) (by omega) (by omega) _).mono ?_; rintro e w' ⟨rfl, rfl⟩)
      | (go_at_call 39; refine (signed_any _ _ (by omega) _).mono ?_; rintro e w' ⟨rfl, rfl⟩))
    go_ret2
    exact ⟨ret_fb r.out.1.symm r.out.2.symm, rfl⟩
theorem parts_any (b : Nat) (hb : (b : Int) ≤ 18446744073709551615) (w : World) (hT : TabAt 1 Lib.deBruijn64tab w) :
    Calls Tryd.prog 47 #[.float .f64 b] w fun e w' => e = .returned (.tuple #[.int .u64 (partM b : Int), .int .i64 (partE b), .bool (partOk b)]) ∧ w = w' := by
  have HT := Lib.hid hT
  clear hT
  rcases kind_cases b with ⟨h1, h2, h3⟩ | ⟨h1, h2, h3⟩ | ⟨h1, h2, h3⟩ | ⟨h1, h2, h3⟩ | ⟨h1, h2, h3⟩
  · have r := Lib.hid (part_none b (by omega))
    clear h1 h2
    go_enter Tryd.func47, Tryd.ntmps47
    go_wp2_with (first
      | (go_at_call 43; refine (fields_any _ hb _).mono ?_; rintro e w' ⟨rfl, rfl⟩)
      | (go_at_call 29; refine (kind_any _ hb _).mono ?_; rintro e w' ⟨rfl, rfl⟩))
    go_ret3
    exact ⟨ret_iib (by rw [r.out.1]; rfl) r.out.2.1.symm r.out.2.2.symm, rfl⟩
  · have r := Lib.hid (part_none b (by omega))
    clear h1 h2
    go_enter Tryd.func47, Tryd.ntmps47
    go_wp2_with (first
      | (go_at_call 43; refine (fields_any _ hb _).mono ?_; rintro e w' ⟨rfl, rfl⟩)
      | (go_at_call 29; refine (kind_any _ hb _).mono ?_; rintro e w' ⟨rfl, rfl⟩))
    go_ret3
    exact ⟨ret_iib (by rw [r.out.1]; rfl) r.out.2.1.symm r.out.2.2.symm, rfl⟩
  · have r := Lib.hid (part_nought b h3)
    clear h1 h2
    go_enter Tryd.func47, Tryd.ntmps47
    go_wp2_with (first
      | (go_at_call 43; refine (fields_any _ hb _).mono ?_; rintro e w' ⟨rfl, rfl⟩)
      | (go_at_call 29; refine (kind_any _ hb _).mono ?_; rintro e w' ⟨rfl, rfl⟩))
    go_ret3
    exact ⟨ret_iib (by rw [r.out.1]; rfl) r.out.2.1.symm r.out.2.2.symm, rfl⟩
  · have r := Lib.hid (part_small b h3 h1)
    have hf := fN_lt b
    clear h1
    go_enter Tryd.func47, Tryd.ntmps47
    go_wp2_with (first
      | (go_at_call 43; refine (fields_any _ hb _).mono ?_; rintro e w' ⟨rfl, rfl⟩)
      | (go_at_call 29; refine (kind_any _ hb _).mono ?_; rintro e w' ⟨rfl, rfl⟩)
      | (go_at_call 40; refine (odd_any _ _ h2 (by omega) (by omega) (by omega) _ HT.out).mono ?_; rintro e w' ⟨rfl, rfl⟩))
    go_ret3
    exact ⟨ret_iib (by rw [r.out.1]) r.out.2.1.symm r.out.2.2.symm, rfl⟩
  · have r' := part_normal b h3 h1
    have r := Lib.hid r'
    have r4 := r'.2.2.2
    have hs : sig b ≠ 0 := by unfold sig; rw [if_neg (by omega)]; omega
    have hf := sig_lt b
    clear r'
    go_enter Tryd.func47, Tryd.ntmps47
    go_wp2_with (first
      | (go_at_call 43; refine (fields_any _ hb _).mono ?_; rintro e w' ⟨rfl, rfl⟩)
      | (go_at_call 29; refine (kind_any _ hb _).mono ?_; rintro e w' ⟨rfl, rfl⟩)
      | (go_at_call 40; refine (odd_any _ _ hs (by omega) (by omega) (by omega) _ HT.out).mono ?_; rintro e w' ⟨rfl, rfl⟩))
    go_ret3
    exact ⟨ret_iib (by rw [r.out.1]) (by rw [r.out.2.1]) r.out.2.2.1.symm, rfl⟩
end Go.Proofs.YtopniihomjakoaaDoor
