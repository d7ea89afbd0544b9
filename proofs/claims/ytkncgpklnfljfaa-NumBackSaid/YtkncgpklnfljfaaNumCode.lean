/- Contracts of package num's functions: Add, Sub, Mul, Sum, Put, Value, at every argument. -/
import Derived.Shelf.Bits.Mul64
import Derived.Test.YtkncgpklnfljfaaKit
import Derived.Test.YtkncgpklnfljfaaNumPure
namespace Go.Proofs
open Go.Shelf
def Try.lays264_ren : Go.Shelf.Ren := ⟨fun | 264 => 18 | n => n, fun | 53 => 39 | 46 => 45 | n => n, fun | n => n⟩
theorem Try.lays264 : Go.Proofs.Lays.n264 Try.prog Try.lays264_ren := {
  mixed := by kernel_rfl
  f264 := Try.func18.trans (congrArg some (by kernel_rfl))
  t46 := Try.underlying45
  a46 := Try.isAgg45
  z46 := Try.sizeOf45
  v46 := Try.zeroValue45
  t53 := Try.underlying39
  a53 := Try.isAgg39
  z53 := Try.sizeOf39
  v53 := Try.zeroValue39 }
open Go.RowKit Go.Lib in
theorem Try.bits_Mul64 (x y : Nat) (hx : x < 18446744073709551616) (hy : y < 18446744073709551616) (w : World) :
    Calls Try.prog 18 #[.int .u64 x, .int .u64 y] w fun e w' => e = .returned (.tuple #[.int .u64 ((x * y / 18446744073709551616 : Nat) : Int), .int .u64 ((x * y % 18446744073709551616 : Nat) : Int)]) ∧ w' = w := Any.bits_Mul64 Try.lays264 x y hx hy w
end Go.Proofs
namespace Go.Proofs.Ytkncgpklnfljfaa
open Go.RowKit Go.ChangeShapes NumPure
theorem add_any (a b : Int) (ha : -9223372036854775808 ≤ a ∧ a ≤ 9223372036854775807) (hb : -9223372036854775808 ≤ b ∧ b ≤ 9223372036854775807) (w : World) :
    Calls Try.prog 6 #[.int .i64 a, .int .i64 b] w fun e w' => e = .returned (.tuple #[.int .i64 (cut (a + b)), .bool (fitsB (a + b))]) ∧ w = w' := by
  obtain ⟨ha1, ha2⟩ := ha
  obtain ⟨hb1, hb2⟩ := hb
  by_cases h : -9223372036854775808 ≤ a + b ∧ a + b ≤ 9223372036854775807
  · have t := add_yes a b ⟨ha1, ha2⟩ ⟨hb1, hb2⟩ h
    have e1 := Lib.hid (cut_in h)
    have e2 := Lib.hid ((fits_iff _).2 h)
    obtain ⟨h1, h2⟩ := h
    go_enter Try.func6, Try.ntmps6
    go_wp2
    go_ret2
    exact ⟨ret_ib e1.out.symm e2.out.symm, rfl⟩
  · have t := add_no a b ⟨ha1, ha2⟩ ⟨hb1, hb2⟩ h
    have e1 := Lib.hid (cut_out h)
    have e2 := Lib.hid ((fits_not _).2 h)
    have hh := Lib.hid h
    clear h
    go_enter Try.func6, Try.ntmps6
    go_wp2
    go_ret2
    exact ⟨ret_ib e1.out.symm e2.out.symm, rfl⟩
theorem sub_any (a b : Int) (ha : -9223372036854775808 ≤ a ∧ a ≤ 9223372036854775807) (hb : -9223372036854775808 ≤ b ∧ b ≤ 9223372036854775807) (w : World) :
    Calls Try.prog 7 #[.int .i64 a, .int .i64 b] w fun e w' => e = .returned (.tuple #[.int .i64 (cut (a - b)), .bool (fitsB (a - b))]) ∧ w = w' := by
  obtain ⟨ha1, ha2⟩ := ha
  obtain ⟨hb1, hb2⟩ := hb
  by_cases h : -9223372036854775808 ≤ a - b ∧ a - b ≤ 9223372036854775807
  · have t := sub_yes a b ⟨ha1, ha2⟩ ⟨hb1, hb2⟩ h
    have e1 := Lib.hid (cut_in h)
    have e2 := Lib.hid ((fits_iff _).2 h)
    obtain ⟨h1, h2⟩ := h
    go_enter Try.func7, Try.ntmps7
    go_wp2
    go_ret2
    exact ⟨ret_ib e1.out.symm e2.out.symm, rfl⟩
  · have t := sub_no a b ⟨ha1, ha2⟩ ⟨hb1, hb2⟩ h
    have e1 := Lib.hid (cut_out h)
    have e2 := Lib.hid ((fits_not _).2 h)
    have hh := Lib.hid h
    clear h
    go_enter Try.func7, Try.ntmps7
    go_wp2
    go_ret2
    exact ⟨ret_ib e1.out.symm e2.out.symm, rfl⟩
theorem size_any (a : Int) (ha : -9223372036854775808 ≤ a ∧ a ≤ 9223372036854775807) (w : World) :
    Calls Try.prog 19 #[.int .i64 a] w fun e w' => e = .returned (.int .u64 (a.natAbs : Int)) ∧ w = w' := by
  obtain ⟨ha1, ha2⟩ := ha
  by_cases h : a < 0
  · have e1 := Lib.hid (size_neg a ⟨ha1, h⟩)
    go_enter Try.func19, Try.ntmps19
    go_wp2
    go_ret
    exact ⟨ret_i e1.out, rfl⟩
  · go_enter Try.func19, Try.ntmps19
    go_wp2
    go_ret
    exact ⟨ret_i (by omega), rfl⟩
theorem mul64_any (x y : Nat) (hx : (x : Int) ≤ 18446744073709551615) (hy : (y : Int) ≤ 18446744073709551615) (w : World) :
    Calls Try.prog 18 #[.int .u64 (x : Int), .int .u64 (y : Int)] w fun e w' => e = .returned (.tuple #[.int .u64 (hiN x y), .int .u64 (loN x y)]) ∧ w = w' :=
  (Try.bits_Mul64 x y (by omega) (by omega) w).mono fun _ _ ⟨h1, h2⟩ => ⟨h1, h2.symm⟩
theorem signed_any (far : Int) (below : Bool) (h1 : 0 ≤ far) (h2 : far ≤ 18446744073709551615) (w : World) :
    Calls Try.prog 20 #[.int .u64 far, .bool below] w fun e w' => e = .returned (.tuple #[.int .i64 (cut (signN far below)), .bool (fitsB (signN far below))]) ∧ w = w' := by
  cases below
  · by_cases h : far ≤ 9223372036854775807
    · have e1 := Lib.hid (cut_in (n := signN far false) (by unfold signN; simp; omega))
      have e2 := Lib.hid ((fits_iff (signN far false)).2 (by unfold signN; simp; omega))
      go_enter Try.func20, Try.ntmps20
      go_wp2
      all_goals (go_ret2; exact ⟨ret_ib e1.out.symm e2.out.symm, rfl⟩)
    · have e1 := Lib.hid (cut_out (n := signN far false) (by unfold signN; simp; omega))
      have e2 := Lib.hid ((fits_not (signN far false)).2 (by unfold signN; simp; omega))
      go_enter Try.func20, Try.ntmps20
      go_wp2
      all_goals (go_ret2; exact ⟨ret_ib e1.out.symm e2.out.symm, rfl⟩)
  · by_cases h : far ≤ 9223372036854775808
    · have e1 := Lib.hid (cut_in (n := signN far true) (by unfold signN; simp; omega))
      have e2 := Lib.hid ((fits_iff (signN far true)).2 (by unfold signN; simp; omega))
      have e3 := Lib.hid (neg_back far ⟨h1, h⟩)
      go_enter Try.func20, Try.ntmps20
      go_wp2
      all_goals (go_ret2; exact ⟨ret_ib (e3.out.trans e1.out.symm) e2.out.symm, rfl⟩)
    · have e1 := Lib.hid (cut_out (n := signN far true) (by unfold signN; simp; omega))
      have e2 := Lib.hid ((fits_not (signN far true)).2 (by unfold signN; simp; omega))
      go_enter Try.func20, Try.ntmps20
      go_wp2
      all_goals (go_ret2; exact ⟨ret_ib e1.out.symm e2.out.symm, rfl⟩)
theorem mul_any (a b : Int) (ha : -9223372036854775808 ≤ a ∧ a ≤ 9223372036854775807) (hb : -9223372036854775808 ≤ b ∧ b ≤ 9223372036854775807) (w : World) :
    Calls Try.prog 8 #[.int .i64 a, .int .i64 b] w fun e w' => e = .returned (.tuple #[.int .i64 (cut (a * b)), .bool (fitsB (a * b))]) ∧ w = w' := by
  obtain ⟨ha1, ha2⟩ := ha
  obtain ⟨hb1, hb2⟩ := hb
  obtain ⟨l1, l2⟩ := loN_rng a.natAbs b.natAbs
  by_cases h : hiN a.natAbs b.natAbs = 0
  · have h0 : (hiN a.natAbs b.natAbs != 0) = false := by simp [h]
    have e := Lib.hid (lo_sign a b h)
    clear h
    go_enter Try.func8, Try.ntmps8
    go_wp2_with (first | (go_at_call 19; refine (size_any _ (by constructor <;> assumption) _).mono ?_; rintro e w' ⟨rfl, rfl⟩) | (go_at_call 18; refine (mul64_any _ _ (by omega) (by omega) _).mono ?_; rintro e w' ⟨rfl, rfl⟩) | (go_at_call 20; refine (signed_any _ _ l1 l2 _).mono ?_; rintro e w' ⟨rfl, rfl⟩))
    go_ret2
    exact ⟨ret_ib (congrArg cut e.out) (congrArg fitsB e.out), rfl⟩
  · have h0 : (hiN a.natAbs b.natAbs != 0) = true := by simp [h]
    have e1 := Lib.hid (cut_out (hi_big a b h))
    have e2 := Lib.hid ((fits_not _).2 (hi_big a b h))
    clear h
    go_enter Try.func8, Try.ntmps8
    go_wp2_with (first | (go_at_call 19; refine (size_any _ (by constructor <;> assumption) _).mono ?_; rintro e w' ⟨rfl, rfl⟩) | (go_at_call 18; refine (mul64_any _ _ (by omega) (by omega) _).mono ?_; rintro e w' ⟨rfl, rfl⟩) | (go_at_call 20; refine (signed_any _ _ l1 l2 _).mono ?_; rintro e w' ⟨rfl, rfl⟩))
    go_ret2
    exact ⟨ret_ib e1.out.symm e2.out.symm, rfl⟩
theorem put_nil (n : Int) (w : World) :
    Calls Try.prog 15 #[.pointer none, .int .i64 n] w fun e w' => e = .returned (.bool false) ∧ w = w' := by
  go_enter Try.func15, Try.ntmps15
  go_wp2
  go_ret
  exact ⟨rfl, rfl⟩
theorem put_over (N : Nat) (n : Int) (w : World) (h1 : w.cell? ⟨N, 1, none⟩ = some (.bool true)) :
    Calls Try.prog 15 #[.pointer (some ⟨N, 0, none⟩), .int .i64 n] w fun e w' => e = .returned (.bool false) ∧ w = w' := by
  go_enter Try.func15, Try.ntmps15
  go_wp2
  go_ret
  exact ⟨rfl, rfl⟩
theorem put_any (N : Nat) (s n : Int) (w : World) (hs : -9223372036854775808 ≤ s ∧ s ≤ 9223372036854775807) (hn : -9223372036854775808 ≤ n ∧ n ≤ 9223372036854775807)
    (h0 : w.cell? ⟨N, 0, none⟩ = some (.int .i64 s)) (h1 : w.cell? ⟨N, 1, none⟩ = some (.bool false)) (f0 : w.frozen? ⟨N, 0, none⟩ = false) (f1 : w.frozen? ⟨N, 1, none⟩ = false) :
    Calls Try.prog 15 #[.pointer (some ⟨N, 0, none⟩), .int .i64 n] w fun e w' => e = .returned (.bool (fitsB (s + n))) ∧ (w.setCell ⟨N, 0, none⟩ (.int .i64 (cut (s + n)))).setCell ⟨N, 1, none⟩ (.bool (!fitsB (s + n))) = w' := by
  go_enter Try.func15, Try.ntmps15
  go_wp2_with (first | (go_at_call 6; refine (add_any _ _ hs hn _).mono ?_; rintro e w' ⟨rfl, rfl⟩))
  go_ret
  exact ⟨rfl, rfl⟩
theorem value_nil (w : World) :
    Calls Try.prog 16 #[.pointer none] w fun e w' => e = .returned (.tuple #[.int .i64 0, .bool false]) ∧ w = w' := by
  go_enter Try.func16, Try.ntmps16
  go_wp2
  go_ret2
  exact ⟨rfl, rfl⟩
theorem value_over (N : Nat) (w : World) (h1 : w.cell? ⟨N, 1, none⟩ = some (.bool true)) :
    Calls Try.prog 16 #[.pointer (some ⟨N, 0, none⟩)] w fun e w' => e = .returned (.tuple #[.int .i64 0, .bool false]) ∧ w = w' := by
  go_enter Try.func16, Try.ntmps16
  go_wp2
  go_ret2
  exact ⟨rfl, rfl⟩
theorem value_yes (N : Nat) (s : Int) (w : World) (h0 : w.cell? ⟨N, 0, none⟩ = some (.int .i64 s)) (h1 : w.cell? ⟨N, 1, none⟩ = some (.bool false)) :
    Calls Try.prog 16 #[.pointer (some ⟨N, 0, none⟩)] w fun e w' => e = .returned (.tuple #[.int .i64 s, .bool true]) ∧ w = w' := by
  go_enter Try.func16, Try.ntmps16
  go_wp2
  go_ret2
  exact ⟨rfl, rfl⟩
/-- The gathering sum at block N. -/
def AccAt (N : Nat) (w : World) (p : Int × Bool) : Prop :=
  w.cell? ⟨N, 0, none⟩ = some (.int .i64 p.1) ∧ w.cell? ⟨N, 1, none⟩ = some (.bool (!p.2)) ∧ w.frozen? ⟨N, 0, none⟩ = false ∧ w.frozen? ⟨N, 1, none⟩ = false
theorem AccAt.set {N : Nat} {w : World} {p : Int × Bool} (h : AccAt N w p) (q : Int × Bool) : AccAt N ((w.setCell ⟨N, 0, none⟩ (.int .i64 q.1)).setCell ⟨N, 1, none⟩ (.bool (!q.2))) q := by
  obtain ⟨h0, h1, f0, f1⟩ := h
  have h1' : (w.setCell ⟨N, 0, none⟩ (.int .i64 q.1)).cell? ⟨N, 1, none⟩ = some (.bool (!p.2)) := by
    exact (World.cell?_setCell_other w ⟨N, 0, none⟩ ⟨N, 1, none⟩ _ (by simp)).trans h1
  refine ⟨?_, World.cell?_setCell_same _ _ _ h1', ?_, ?_⟩
  · exact (World.cell?_setCell_other _ ⟨N, 1, none⟩ ⟨N, 0, none⟩ _ (by simp)).trans (World.cell?_setCell_same _ _ _ h0)
  · simpa using f0
  · simpa using f1
theorem AccAt.on {M : Nat} {w w' : World} {p : Int × Bool} (h : AccAt M w p) (hb : Below (M + 1) w w') : AccAt M w' p := by
  obtain ⟨h0, h1, f0, f1⟩ := h
  exact ⟨(hb.cell (by simp)).trans h0, (hb.cell (by simp)).trans h1, (hb.frozen (by simp)).trans f0, (hb.frozen (by simp)).trans f1⟩
theorem AccAt.lt {M : Nat} {w : World} {p : Int × Bool} (h : AccAt M w p) : M < w.heap.size := World.block_lt_of_cell? w _ h.1
/-- What holds at the head of round k of a loop that puts one number after another: all that were put so far fit. -/
def PutRel (N : Nat) (w : World) (l : List Int) (k : Nat) (wr : World) : Prop := k ≤ l.length ∧ (sumS (l.take k)).2 = true ∧ Below N w wr ∧ AccAt N wr (sumS (l.take k))
theorem PutRel.start {N : Nat} {w : World} {l : List Int} (h : AccAt N w (0, true)) : PutRel N w l 0 w := ⟨Nat.zero_le _, rfl, Below.refl _ _, h⟩
theorem PutRel.put {N : Nat} {w wr : World} {l : List Int} {k : Nat} (h : PutRel N w l k wr) (hk : k < l.length) :
    Below N w ((wr.setCell ⟨N, 0, none⟩ (.int .i64 (cut ((sumS (l.take k)).1 + l.getD k 0)))).setCell ⟨N, 1, none⟩ (.bool (!fitsB ((sumS (l.take k)).1 + l.getD k 0)))) ∧
    AccAt N ((wr.setCell ⟨N, 0, none⟩ (.int .i64 (cut ((sumS (l.take k)).1 + l.getD k 0)))).setCell ⟨N, 1, none⟩ (.bool (!fitsB ((sumS (l.take k)).1 + l.getD k 0)))) (sumS (l.take (k + 1))) := by
  obtain ⟨_, h2, h3, h4⟩ := h
  have e := sumS_take l k hk
  rw [step_ok _ _ h2] at e
  refine ⟨(h3.setCell (Nat.le_refl _) _).setCell (Nat.le_refl _) _, ?_⟩
  have := h4.set (cut ((sumS (l.take k)).1 + l.getD k 0), fitsB ((sumS (l.take k)).1 + l.getD k 0))
  rw [e]; exact this
theorem sum_take_ok {l : List Int} {k : Nat} (hk : k < l.length) (h : (sumS (l.take k)).2 = true) : (sumS (l.take (k + 1))).2 = fitsB ((sumS (l.take k)).1 + l.getD k 0) := by
  rw [sumS_take l k hk, step_ok _ _ h]
set_option maxHeartbeats 400000 in
theorem putAll_any (N : Nat) (a : Option Addr) (cap : Nat) (l : List Int) (w : World) (hr : Rng l) (hl : Reads N w a l) (hlen : l.length ≤ 9223372036854775807)
    (hacc : AccAt N w (0, true)) :
    Calls Try.prog 21 #[.func (.func 15) #[.pointer (some ⟨N, 0, none⟩)] #[], .slice a l.length cap] w fun e w' => e = .returned (.bool (sumS l).2) ∧ Below N w w' ∧ AccAt N w' (sumS l) := by
  have HR := Lib.hid hr; have HL := Lib.hid hl; have HA := Lib.hid hacc
  clear hr hl hacc
  go_enter Try.func21, Try.ntmps21
  go_wp2
  go_loopw [9] (fun i wr => ∃ k : Nat, i = .int .i64 k ∧ Hid (PutRel N w l k wr)) (fun i _ => l.length - (intOf i).toNat)
  case atStart => exact ⟨0, rfl, PutRel.start HA.out⟩
  case round =>
    obtain ⟨k, rfl, HP⟩ := hrel
    have hk1 := HP.out.1
    by_cases hlt : k < l.length
    · obtain ⟨b, off, ha, hbN, hck⟩ := (HL.out.on HP.out.2.2.1).at hlt
      subst ha
      have hrk := HR.out k hlt
      have hsr := sumS_rng (l.take k)
      obtain ⟨a0, a1, f0, f1⟩ := HP.out.2.2.2
      rw [HP.out.2.1] at a1
      generalize hn : l.getD k 0 = n at *
      generalize hs : (sumS (l.take k)).1 = s at *
      have hpu := HP.out.put hlt
      have hto := sum_take_ok hlt HP.out.2.1
      rw [hn, hs] at hpu hto
      have HU := Lib.hid hpu
      have HT := Lib.hid hto
      clear hn hs hpu hto
      cases hf : fitsB (s + n)
      · have HF := Lib.hid hf
        go_wp2_with (first | (go_at_call 15; refine (put_any N _ _ _ hsr hrk a0 a1 f0 f1).mono ?_; rintro e w' ⟨rfl, rfl⟩))
        go_ret
        obtain ⟨hu1, hu2⟩ := HU.out
        have ht := HT.out
        rw [HF.out] at hu1 hu2 ht
        have hz := sumS_stays l (k + 1) ht
        have hz' : sumS (l.take (k + 1)) = (0, false) := Prod.ext (sumS_zero _ ht) ht
        rw [hz'] at hu2
        refine ⟨bool_ret (by rw [hz]), hu1, ?_⟩
        rw [hz]; exact hu2
      · have HF := Lib.hid hf
        go_wp2_with (first | (go_at_call 15; refine (put_any N _ _ _ hsr hrk a0 a1 f0 f1).mono ?_; rintro e w' ⟨rfl, rfl⟩))
        go_roundw
        case rel =>
          obtain ⟨hu1, hu2⟩ := HU.out
          have ht := HT.out
          rw [HF.out] at hu1 hu2 ht
          exact ⟨k + 1, by go_num, ⟨hlt, ht, hu1, hu2⟩⟩
        case measure => simp [intOf]; omega
    · have hke : k = l.length := by omega
      subst hke
      go_wp2
      go_ret
      obtain ⟨_, p2, p3, p4⟩ := HP.out
      rw [List.take_length] at p2 p4
      exact ⟨bool_ret p2.symm, p3, p4⟩
theorem accAt_new (w : World) (t : TypeId) : AccAt w.heap.size (w.alloc (.cells #[.int .i64 0, .bool false] t)) (0, true) := by
  refine ⟨?_, ?_, ?_, ?_⟩ <;> simp
set_option maxHeartbeats 400000 in
theorem sum_any (a : Option Addr) (cap : Nat) (l : List Int) (w : World) (hr : Rng l) (hl : Reads w.heap.size w a l) (hlen : l.length ≤ 9223372036854775807) :
    Calls Try.prog 17 #[.slice a l.length cap] w fun e w' => e = .returned (.tuple #[.int .i64 (sumS l).1, .bool (sumS l).2]) ∧ Below w.heap.size w w' := by
  have hA := accAt_new w 33
  have hB := (Below.refl w.heap.size w).alloc (Nat.le_refl _) (.cells #[.int .i64 0, .bool false] 33)
  have PA := Lib.hid (putAll_any w.heap.size a cap l _ hr (hl.on hB) hlen hA)
  have HB := Lib.hid hB
  clear hr hl hA hB
  cases hs : (sumS l).2
  · have hz := Lib.hid (sumS_zero l hs)
    have HS := Lib.hid hs
    clear hs
    go_enter Try.func17, Try.ntmps17
    go_wp2_with fail
    refine PA.out.mono ?_
    rw [HS.out]
    rintro e w1 ⟨rfl, hb1, hacc⟩
    have HB1 := Lib.hid hb1
    clear hb1 hacc
    go_wp2
    go_ret2
    exact ⟨ret_ib hz.out.symm rfl, HB.out.trans HB1.out⟩
  · have HS := Lib.hid hs
    clear hs
    go_enter Try.func17, Try.ntmps17
    go_wp2_with fail
    refine PA.out.mono ?_
    rw [HS.out]
    rintro e w1 ⟨rfl, hb1, hacc⟩
    have HB1 := Lib.hid hb1
    obtain ⟨a0, a1, _, _⟩ := hacc
    rw [HS.out] at a1
    clear hb1
    have V := Lib.hid (value_yes w.heap.size _ w1 a0 a1)
    clear a0 a1
    go_wp2_with fail
    refine V.out.mono ?_
    rintro e w2 ⟨rfl, rfl⟩
    go_wp2
    go_ret2
    exact ⟨ret_ib rfl rfl, HB.out.trans HB1.out⟩
theorem put_gen (N : Nat) (p : Int × Bool) (n : Int) (w : World) (hs : -9223372036854775808 ≤ p.1 ∧ p.1 ≤ 9223372036854775807) (hn : -9223372036854775808 ≤ n ∧ n ≤ 9223372036854775807) (hz : p.2 = false → p.1 = 0) (h : AccAt N w p) :
    Calls Try.prog 15 #[.pointer (some ⟨N, 0, none⟩), .int .i64 n] w fun e w' => e = .returned (.bool (stepS p n).2) ∧ Below N w w' ∧ AccAt N w' (stepS p n) ∧ OnlyAt N w w' := by
  cases hp : p.2
  · have h1 := h.2.1
    rw [hp] at h1
    refine (put_over N n w h1).mono fun e w' ⟨he, hw⟩ => ?_
    subst hw
    rw [step_bad p n hp]
    have hpe : p = (0, false) := Prod.ext (hz hp) hp
    rw [hpe] at h
    exact ⟨he, Below.refl _ _, h, OnlyAt.refl _ _⟩
  · obtain ⟨h0, h1, f0, f1⟩ := h
    have h1' := h1
    rw [hp] at h1'
    refine (put_any N p.1 n w hs hn h0 h1' f0 f1).mono fun e w' ⟨he, hw⟩ => ?_
    subst hw
    rw [step_ok p n hp]
    exact ⟨he, ((Below.refl N w).setCell (p := ⟨N, 0, none⟩) (Nat.le_refl _) _).setCell (p := ⟨N, 1, none⟩) (Nat.le_refl _) _, AccAt.set ⟨h0, h1, f0, f1⟩ (cut (p.1 + n), fitsB (p.1 + n)), OnlyAt.two _ _ _ _⟩
theorem value_gen (N : Nat) (p : Int × Bool) (w : World) (hz : p.2 = false → p.1 = 0) (h : AccAt N w p) :
    Calls Try.prog 16 #[.pointer (some ⟨N, 0, none⟩)] w fun e w' => e = .returned (.tuple #[.int .i64 p.1, .bool p.2]) ∧ w = w' := by
  obtain ⟨h0, h1, _, _⟩ := h
  cases hp : p.2
  · rw [hp] at h1
    rw [hz hp]
    exact value_over N w h1
  · rw [hp] at h1
    exact value_yes N p.1 w h0 h1
theorem sum_len (a : Option Addr) (cap n : Nat) (l : List Int) (hn : l.length = n) (w : World) (hr : Rng l) (hl : Reads w.heap.size w a l) (hlen : n ≤ 9223372036854775807) :
    Calls Try.prog 17 #[.slice a n cap] w fun e w' => e = .returned (.tuple #[.int .i64 (sumS l).1, .bool (sumS l).2]) ∧ Below w.heap.size w w' := by
  subst hn; exact sum_any a cap l w hr hl hlen
end Go.Proofs.Ytkncgpklnfljfaa
