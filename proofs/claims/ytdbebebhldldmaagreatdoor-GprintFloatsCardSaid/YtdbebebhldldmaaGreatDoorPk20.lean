/- Texts that the laws of this seat stand on, part 20. -/
import Derived.Test.YtdbebebhldldmaaGreatDoorPk9
import Derived.Test.YtdbebebhldldmaaGreatDoorPk19
import Derived.Test.YtdbebebhldldmaaGreatDoorPk2
import Derived.Test.YtdbebebhldldmaaGreatDoorPk3
import Derived.Shelf.Spec.TrailingZeros
import Derived.Shelf.Strconv.Itoa0
import Derived.Test.YtdbebebhldldmaaGreatDoorProg
import Derived.Laws.Externs
import Derived.WalkLawsBesides
import Derived.Test.YtdbebebhldldmaaGreatDoorPk0
import Derived.Test.YtdbebebhldldmaaGreatDoorPk18
/- A text of edges with floats as weights, plainly: whether there is one, or why and where not. No program in sight. -/
namespace Go.Proofs.YtdbebebhldldmaaGreatDoor.GpPure
open EdPure DecPure WordPure GrPure NtPure First FintPure FbitPure
/-- The edges with these floats' weights. -/
def wOut (l : List Ed) (ws : List Nat) : List Ed := List.zipWith (fun e b => (e.1, e.2.1, weightN b)) l ws
theorem wOut_len {l : List Ed} {ws : List Nat} (h : l.length = ws.length) : (wOut l ws).length = l.length := by unfold wOut; simp [h]
theorem wOut_at {l : List Ed} {ws : List Nat} {k : Nat} (h1 : k < l.length) (h2 : k < ws.length) (h3 : k < (wOut l ws).length) : (wOut l ws)[k] = (l[k].1, l[k].2.1, weightN ws[k]) := List.getElem_zipWith
/-- Where the first edge is that can't be. -/
def badV (n : Int) (l : List Ed) (ws : List Nat) : Nat := firstBad (chkE n) (wOut l ws)
def fltE (n : Int) (l : List Ed) (ws : List Nat) : Int :=
  if l.length ≠ ws.length then 1 else if errAt weightE ws ≠ 0 then errAt weightE ws else if n < 0 then 1 else if 4096 < n ∨ 1048576 < l.length then 3 else if badV n l ws < l.length then 4 else 0
def fltAt (n : Int) (l : List Ed) (ws : List Nat) : Int :=
  if l.length ≠ ws.length then 0 else if errAt weightE ws ≠ 0 then plcAt weightE ws else if n < 0 then 0 else if 4096 < n ∨ 1048576 < l.length then 0 else if badV n l ws < l.length then (badV n l ws : Int) else 0
def fltT (n : Int) (l : List Ed) (ws : List Nat) : List UInt8 := if fltE n l ws = 0 then textP n (wOut l ws) else []
theorem flt_bad {n : Int} {l : List Ed} {ws : List Nat} (h : fltE n l ws ≠ 0) : fltT n l ws = [] := if_neg h
theorem flt_len {n : Int} {l : List Ed} {ws : List Nat} (h : l.length ≠ ws.length) : fltE n l ws = 1 ∧ fltAt n l ws = 0 := by unfold fltE fltAt; rw [if_pos h, if_pos h]; exact ⟨rfl, rfl⟩
theorem flt_w {n : Int} {l : List Ed} {ws : List Nat} (h : l.length = ws.length) (h2 : errAt weightE ws ≠ 0) : fltE n l ws = errAt weightE ws ∧ fltAt n l ws = plcAt weightE ws := by
  unfold fltE fltAt; rw [if_neg (fun e => e h), if_pos h2, if_neg (fun e => e h), if_pos h2]; exact ⟨rfl, rfl⟩
theorem flt_low {n : Int} {l : List Ed} {ws : List Nat} (h : l.length = ws.length) (h2 : errAt weightE ws = 0) (h3 : n < 0) : fltE n l ws = 1 ∧ fltAt n l ws = 0 := by
  unfold fltE fltAt; rw [if_neg (fun e => e h), if_neg (fun e => e h2), if_pos h3, if_neg (fun e => e h), if_neg (fun e => e h2), if_pos h3]; exact ⟨rfl, rfl⟩
theorem flt_many {n : Int} {l : List Ed} {ws : List Nat} (h : l.length = ws.length) (h2 : errAt weightE ws = 0) (h3 : ¬ n < 0) (h4 : 4096 < n ∨ 1048576 < l.length) : fltE n l ws = 3 ∧ fltAt n l ws = 0 := by
  unfold fltE fltAt; rw [if_neg (fun e => e h), if_neg (fun e => e h2), if_neg h3, if_pos h4, if_neg (fun e => e h), if_neg (fun e => e h2), if_neg h3, if_pos h4]; exact ⟨rfl, rfl⟩
theorem flt_v {n : Int} {l : List Ed} {ws : List Nat} (h : l.length = ws.length) (h2 : errAt weightE ws = 0) (h3 : ¬ n < 0) (h4 : ¬ (4096 < n ∨ 1048576 < l.length)) (h5 : badV n l ws < l.length) : fltE n l ws = 4 ∧ fltAt n l ws = (badV n l ws : Int) := by
  unfold fltE fltAt; rw [if_neg (fun e => e h), if_neg (fun e => e h2), if_neg h3, if_neg h4, if_pos h5, if_neg (fun e => e h), if_neg (fun e => e h2), if_neg h3, if_neg h4, if_pos h5]; exact ⟨rfl, rfl⟩
theorem flt_good {n : Int} {l : List Ed} {ws : List Nat} (h : l.length = ws.length) (h2 : errAt weightE ws = 0) (h3 : ¬ n < 0) (h4 : ¬ (4096 < n ∨ 1048576 < l.length)) (h5 : ¬ badV n l ws < l.length) : fltE n l ws = 0 ∧ fltAt n l ws = 0 ∧ fltT n l ws = textP n (wOut l ws) := by
  have h0 : fltE n l ws = 0 := by unfold fltE; rw [if_neg (fun e => e h), if_neg (fun e => e h2), if_neg h3, if_neg h4, if_neg h5]
  refine ⟨h0, ?_, if_pos h0⟩
  unfold fltAt; rw [if_neg (fun e => e h), if_neg (fun e => e h2), if_neg h3, if_neg h4, if_neg h5]
theorem first_eq {α : Type} {E : α → Int} {l : List α} {k : Nat} (h : k < l.length) (hg : ∀ j (hj : j < l.length), j < k → E l[j] = 0) (hb : E l[k] ≠ 0) : firstBad E l = k := by
  rcases Nat.lt_trichotomy (firstBad E l) k with h1 | h1 | h1
  · exact absurd (hg _ (by omega) h1) (First.first_bad E l (by omega))
  · exact h1
  · exact absurd (First.first_good E l k h h1) hb
theorem weight_rng (b : Nat) : 0 ≤ weightN b ∧ weightN b ≤ 2147483648 := by
  unfold weightN
  split
  · next h =>
    unfold weightE at h
    split at h
    · next h1 => exact absurd h h1
    · split at h
      · cases h
      · omega
  · omega
theorem wOut_in {l : List Ed} {ws : List Nat} (h : InL l) (hl : l.length = ws.length) : InL (wOut l ws) := by
  intro x hx
  obtain ⟨k, hk, rfl⟩ := List.mem_iff_getElem.1 hx
  have hk1 : k < l.length := by rw [wOut_len hl] at hk; exact hk
  rw [wOut_at hk1 (by omega) hk]
  have h1 := h _ (List.getElem_mem hk1)
  have h2 := weight_rng ws[k]
  exact ⟨h1.1, h1.2.1, by unfold In; simp only; omega⟩
end Go.Proofs.YtdbebebhldldmaaGreatDoor.GpPure
/- The library's tables as this seat's rows list them: de Bruijn's beside the powers of ten. -/
namespace Go.Proofs.YtdbebebhldldmaaGreatDoor
open Go.ChangeShapes Go.WideShapes Go.ChangeAt Go.RowKit
def tab64Name : String := ((Rows.gprintTellsRow.laid.map (·.1))[1]?).getD ""
theorem tab64Global : Tryz.prog.globalNamed tab64Name = some 4 := by kernel_rfl
/-- De Bruijn's table lies as the library lays it. -/
def Tab64 (w : World) : Prop := TabAt 4 Lib.deBruijn64tab w
theorem Tab64.on {w w' : World} (h : Tab64 w) (hb : Below w.heap.size w w') : Tab64 w' := fun j hj => by
  have hl : 4 < w.heap.size := World.block_lt_of_cell? w _ (h j hj)
  exact (hb.cell (p := ⟨4, j, none⟩) hl).trans (h j hj)
theorem tab64_of_laid {W : World} (h : laidMetH Tryz.prog Rows.gprintTellsRow.laid W) : Tab64 W := by
  have h' : laidMet Tryz.prog (_ :: (tab64Name, Lib.tabData .u8 (Lib.deBruijn64tab.map fun n : Nat => (n : Int))) :: _ :: []) W := h
  have hT := Lib.tabIs_of_head (t := 221) (n := 64) tab64Global (by kernel_rfl) Tryz.underlying221 Tryz.underlying5 (by kernel_rfl) (by kernel_rfl) h'.tail
  intro j hj
  have := hT.cell tab64Global j (by simpa using hj)
  rw [this]
  simp [List.getD_eq_getElem?_getD, hj]
end Go.Proofs.YtdbebebhldldmaaGreatDoor
/- The library's contracts that fbit calls, laid at this program: bits.Len64 and bits.TrailingZeros64. -/
namespace Go.Proofs
open Go.Shelf
def Tryz.lays129_ren : Go.Shelf.Ren := ⟨fun | 129 => 107 | n => n, fun | 53 => 40 | 3 => 3 | 4 => 4 | 46 => 124 | 5 => 5 | 9 => 9 | n => n, fun | n => n⟩
theorem Tryz.lays129 : Go.Proofs.Lays.n129 Tryz.prog Tryz.lays129_ren := {
  mixed := by kernel_rfl
  f129 := Tryz.func107.trans (congrArg some (by kernel_rfl))
  t3 := Tryz.underlying3
  a3 := Tryz.isAgg3
  z3 := Tryz.sizeOf3
  v3 := Tryz.zeroValue3
  t4 := Tryz.underlying4
  a4 := Tryz.isAgg4
  z4 := Tryz.sizeOf4
  v4 := Tryz.zeroValue4
  t5 := Tryz.underlying5
  a5 := Tryz.isAgg5
  z5 := Tryz.sizeOf5
  v5 := Tryz.zeroValue5
  t9 := Tryz.underlying9
  a9 := Tryz.isAgg9
  z9 := Tryz.sizeOf9
  v9 := Tryz.zeroValue9
  t46 := Tryz.underlying124
  a46 := Tryz.isAgg124
  z46 := Tryz.sizeOf124
  v46 := Tryz.zeroValue124
  t53 := Tryz.underlying40
  a53 := Tryz.isAgg40
  z53 := Tryz.sizeOf40
  v53 := Tryz.zeroValue40 }
def Tryz.lays29_ren : Go.Shelf.Ren := ⟨fun | 29 => 146 | n => n, fun | 22 => 40 | 3 => 3 | 4 => 4 | 25 => 124 | 54 => 221 | 0 => 0 | 5 => 5 | n => n, fun | 1 => 4 | n => n⟩
theorem Tryz.lays29 : Go.Proofs.Lays7.n29 Tryz.prog Tryz.lays29_ren := {
  mixed := by kernel_rfl
  f29 := Tryz.func146.trans (congrArg some (by kernel_rfl))
  t0 := Tryz.underlying0
  a0 := Tryz.isAgg0
  z0 := Tryz.sizeOf0
  v0 := Tryz.zeroValue0
  i0 := by kernel_rfl
  t3 := Tryz.underlying3
  a3 := Tryz.isAgg3
  z3 := Tryz.sizeOf3
  v3 := Tryz.zeroValue3
  i3 := by kernel_rfl
  t4 := Tryz.underlying4
  a4 := Tryz.isAgg4
  z4 := Tryz.sizeOf4
  v4 := Tryz.zeroValue4
  i4 := by kernel_rfl
  t5 := Tryz.underlying5
  a5 := Tryz.isAgg5
  z5 := Tryz.sizeOf5
  v5 := Tryz.zeroValue5
  i5 := by kernel_rfl
  t22 := Tryz.underlying40
  a22 := Tryz.isAgg40
  z22 := Tryz.sizeOf40
  v22 := Tryz.zeroValue40
  i22 := by kernel_rfl
  t25 := Tryz.underlying124
  a25 := Tryz.isAgg124
  z25 := Tryz.sizeOf124
  v25 := Tryz.zeroValue124
  i25 := by kernel_rfl
  t54 := Tryz.underlying221
  a54 := Tryz.isAgg221
  z54 := Tryz.sizeOf221
  g1 := by kernel_rfl }
theorem Tryz.bits_Len64 (x : Int) (w : World) (h0 : 0 ≤ x) (h1 : x ≤ 18446744073709551615) :
    Calls Tryz.prog 107 #[.int .u64 x] w fun e w' => e = .returned (.int .i64 (Lib.bitLen x.toNat)) ∧ w' = w := Any.bits_Len64 Tryz.lays129 x w h0 h1
theorem Tryz.bits_Tz64 (x : Nat) (hx : x < 18446744073709551616) (w : World) (hT : x ≠ 0 → TabAt 4 Lib.deBruijn64tab w) :
    Calls Tryz.prog 146 #[.int .u64 x] w fun e w' => e = .returned (.int .i64 (Lib.ctz 64 x)) ∧ w' = w := Any7.bits_TrailingZeros64 Tryz.lays29 x hx w hT
end Go.Proofs
/- Contracts of package fbit's functions, at every argument. -/
namespace Go.Proofs.YtdbebebhldldmaaGreatDoor
open Go.RowKit Go.ChangeShapes FbitPure
theorem run_bits (b : Nat) (w : World) : (callFunc 158 #[.float .f64 b]).run Tryz.prog w = .ok (.value (.int .u64 b)) w := by
  rw [run_callFunc_extern (e := Go.Extern.MathFloatBits.float64bits) Tryz.func158 (by kernel_rfl) (by kernel_rfl) (by kernel_rfl) (by kernel_rfl)]
  rfl
theorem run_from (n : Nat) (w : World) : (callFunc 41 #[.int .u64 n]).run Tryz.prog w = .ok (.value (.float .f64 n)) w := by
  rw [run_callFunc_extern (e := Go.Extern.MathFloatBits.float64frombits) Tryz.func41 (by kernel_rfl) (by kernel_rfl) (by kernel_rfl) (by kernel_rfl)]
  rfl
theorem of_any (b : Nat) (w : World) :
    Calls Tryz.prog 15 #[.int .u64 b] w fun e w' => e = .returned (.float .f64 b) ∧ w = w' := by
  have hd := run_from b
  go_enter Tryz.func15, Tryz.ntmps15
  go_wp2
  go_ret
  exact ⟨rfl, rfl⟩
theorem ret_bii {k l : IntKind} {a b : Bool} {c d m n : Int} (h1 : a = b) (h2 : c = d) (h3 : m = n) : Ending.returned (.tuple #[.bool a, .int k c, .int l m]) = .returned (.tuple #[.bool b, .int k d, .int l n]) := by rw [h1, h2, h3]
theorem ret_iib {k l : IntKind} {a b : Bool} {c d m n : Int} (h2 : c = d) (h3 : m = n) (h1 : a = b) : Ending.returned (.tuple #[.int k c, .int l m, .bool a]) = .returned (.tuple #[.int k d, .int l n, .bool b]) := by rw [h1, h2, h3]
theorem ret_ii {k l : IntKind} {c d m n : Int} (h2 : c = d) (h3 : m = n) : Ending.returned (.tuple #[.int k c, .int l m]) = .returned (.tuple #[.int k d, .int l n]) := by rw [h2, h3]
theorem fields_any (b : Nat) (hb : (b : Int) ≤ 18446744073709551615) (w : World) :
    Calls Tryz.prog 154 #[.float .f64 b] w fun e w' => e = .returned (.tuple #[.bool (topB b), .int .i64 (eN b : Int), .int .u64 (fN b : Int)]) ∧ w = w' := by
  have hd := run_bits b
  have e1 := Lib.hid (and_s b hb)
  have e2 := Lib.hid (and_e b hb)
  have e3 := Lib.hid (and_f b hb)
  have e4 := Lib.hid (eN_lt b)
  go_enter Tryz.func154, Tryz.ntmps154
  go_wp2
  go_ret3
  exact ⟨ret_bii e1.out (by rw [e2.out]; have := e4.out; unfold wrap64; omega) e3.out, rfl⟩
theorem kind_any (b : Nat) (hb : (b : Int) ≤ 18446744073709551615) (w : World) :
    Calls Tryz.prog 147 #[.float .f64 b] w fun e w' => e = .returned (.int .i64 (kindN b)) ∧ w = w' := by
  have hk := kind_cases b
  rcases hk with ⟨h1, h2, h3⟩ | ⟨h1, h2, h3⟩ | ⟨h1, h2, h3⟩ | ⟨h1, h2, h3⟩ | ⟨h1, h2, h3⟩
  all_goals
    have h4 := Lib.hid h3
    clear h3
    go_enter Tryz.func147, Tryz.ntmps147
    go_wp2_with (first | (go_at_call 154; refine (fields_any _ hb _).mono ?_; rintro e w' ⟨rfl, rfl⟩))
    go_ret
    exact ⟨ret_i (by rw [h4.out]), rfl⟩
theorem of_int (z : Int) (hz : 0 ≤ z) (w : World) :
    Calls Tryz.prog 15 #[.int .u64 z] w fun e w' => e = .returned (.float .f64 z.toNat) ∧ w = w' := by
  obtain ⟨n, rfl⟩ := Int.eq_ofNat_of_zero_le hz
  exact of_any n w
theorem ret_f {a b : Nat} (h : a = b) : Ending.returned (.float .f64 a) = .returned (.float .f64 b) := by rw [h]
theorem tz_any (x : Nat) (hx : x < 18446744073709551616) (w : World) (hT : TabAt 4 Lib.deBruijn64tab w) :
    Calls Tryz.prog 146 #[.int .u64 x] w fun e w' => e = .returned (.int .i64 (tz x : Int)) ∧ w = w' :=
  (Tryz.bits_Tz64 x hx w (fun _ => hT)).mono fun _ _ ⟨h1, h2⟩ => ⟨h1, h2.symm⟩
theorem odd_any (x : Nat) (e : Int) (h0 : x ≠ 0) (hx : x < 18446744073709551616) (he1 : -9223372036854775808 ≤ e) (he2 : e ≤ 9223372036854775000) (w : World) (hT : TabAt 4 Lib.deBruijn64tab w) :
    Calls Tryz.prog 155 #[.int .u64 x, .int .i64 e] w fun en w' => en = .returned (.tuple #[.int .u64 (od x : Int), .int .i64 (e + tz x)]) ∧ w = w' := by
  obtain ⟨d1, d2, d3⟩ := od_spec x h0 hx
  have HT := Lib.hid hT
  clear hT d1 d2
  go_enter Tryz.func155, Tryz.ntmps155
  go_wp2_with (first | (go_at_call 146; refine (tz_any _ hx _ HT.out).mono ?_; rintro e w' ⟨rfl, rfl⟩))
  go_ret2
  exact ⟨ret_ii (by unfold od; rw [Int.natCast_ediv, Int.natCast_pow]; rfl) rfl, rfl⟩
theorem len_any (x : Nat) (hx : x < 18446744073709551616) (w : World) :
    Calls Tryz.prog 107 #[.int .u64 x] w fun e w' => e = .returned (.int .i64 (bl x : Int)) ∧ w = w' :=
  (Tryz.bits_Len64 x w (by omega) (by omega)).mono fun _ _ ⟨h1, h2⟩ => ⟨h1, h2.symm⟩
theorem ret_fb {a b : Nat} {c d : Bool} (h1 : a = b) (h2 : c = d) : Ending.returned (.tuple #[.float .f64 a, .bool c]) = .returned (.tuple #[.float .f64 b, .bool d]) := by rw [h1, h2]
theorem parts_any (b : Nat) (hb : (b : Int) ≤ 18446744073709551615) (w : World) (hT : TabAt 4 Lib.deBruijn64tab w) :
    Calls Tryz.prog 148 #[.float .f64 b] w fun e w' => e = .returned (.tuple #[.int .u64 (partM b : Int), .int .i64 (partE b), .bool (partOk b)]) ∧ w = w' := by
  have HT := Lib.hid hT
  clear hT
  rcases kind_cases b with ⟨h1, h2, h3⟩ | ⟨h1, h2, h3⟩ | ⟨h1, h2, h3⟩ | ⟨h1, h2, h3⟩ | ⟨h1, h2, h3⟩
  · have r := Lib.hid (part_none b (by omega))
    clear h1 h2
    go_enter Tryz.func148, Tryz.ntmps148
    go_wp2_with (first
      | (go_at_call 154; refine (fields_any _ hb _).mono ?_; rintro e w' ⟨rfl, rfl⟩)
      | (go_at_call 147; refine (kind_any _ hb _).mono ?_; rintro e w' ⟨rfl, rfl⟩))
    go_ret3
    exact ⟨ret_iib (by rw [r.out.1]; rfl) r.out.2.1.symm r.out.2.2.symm, rfl⟩
  · have r := Lib.hid (part_none b (by omega))
    clear h1 h2
    go_enter Tryz.func148, Tryz.ntmps148
    go_wp2_with (first
      | (go_at_call 154; refine (fields_any _ hb _).mono ?_; rintro e w' ⟨rfl, rfl⟩)
      | (go_at_call 147; refine (kind_any _ hb _).mono ?_; rintro e w' ⟨rfl, rfl⟩))
    go_ret3
    exact ⟨ret_iib (by rw [r.out.1]; rfl) r.out.2.1.symm r.out.2.2.symm, rfl⟩
  · have r := Lib.hid (part_nought b h3)
    clear h1 h2
    go_enter Tryz.func148, Tryz.ntmps148
    go_wp2_with (first
      | (go_at_call 154; refine (fields_any _ hb _).mono ?_; rintro e w' ⟨rfl, rfl⟩)
      | (go_at_call 147; refine (kind_any _ hb _).mono ?_; rintro e w' ⟨rfl, rfl⟩))
    go_ret3
    exact ⟨ret_iib (by rw [r.out.1]; rfl) r.out.2.1.symm r.out.2.2.symm, rfl⟩
  · have r := Lib.hid (part_small b h3 h1)
    have hf := fN_lt b
    clear h1
    go_enter Tryz.func148, Tryz.ntmps148
    go_wp2_with (first
      | (go_at_call 154; refine (fields_any _ hb _).mono ?_; rintro e w' ⟨rfl, rfl⟩)
      | (go_at_call 147; refine (kind_any _ hb _).mono ?_; rintro e w' ⟨rfl, rfl⟩)
      | (go_at_call 155; refine (odd_any _ _ h2 (by omega) (by omega) (by omega) _ HT.out).mono ?_; rintro e w' ⟨rfl, rfl⟩))
    go_ret3
    exact ⟨ret_iib (by rw [r.out.1]) r.out.2.1.symm r.out.2.2.symm, rfl⟩
  · have r' := part_normal b h3 h1
    have r := Lib.hid r'
    have r4 := r'.2.2.2
    have hs : sig b ≠ 0 := by unfold sig; rw [if_neg (by omega)]; omega
    have hf := sig_lt b
    clear r'
    go_enter Tryz.func148, Tryz.ntmps148
    go_wp2_with (first
      | (go_at_call 154; refine (fields_any _ hb _).mono ?_; rintro e w' ⟨rfl, rfl⟩)
      | (go_at_call 147; refine (kind_any _ hb _).mono ?_; rintro e w' ⟨rfl, rfl⟩)
      | (go_at_call 155; refine (odd_any _ _ hs (by omega) (by omega) (by omega) _ HT.out).mono ?_; rintro e w' ⟨rfl, rfl⟩))
    go_ret3
    exact ⟨ret_iib (by rw [r.out.1]) (by rw [r.out.2.1]) r.out.2.2.1.symm, rfl⟩
end Go.Proofs.YtdbebebhldldmaaGreatDoor
/- Contracts of the document's own answers for layer 2; facts on what is made. -/
namespace Go.Proofs.YtdbebebhldldmaaGreatDoor
open Go.RowKit Go.ChangeShapes FbitPure
theorem refKind_any (b : Nat) (hb : (b : Int) ≤ 18446744073709551615) (w : World) :
    Calls Tryz.prog 119 #[.int .u64 b] w fun e w' => e = .returned (.int .i64 (kindN b)) ∧ w = w' := by
  have e2 := and_e b hb
  have e3 := and_f b hb
  have hk := kind_cases b
  rcases hk with ⟨h1, h2, h3⟩ | ⟨h1, h2, h3⟩ | ⟨h1, h2, h3⟩ | ⟨h1, h2, h3⟩ | ⟨h1, h2, h3⟩
  all_goals
    have h4 := Lib.hid h3
    clear h3
    go_enter Tryz.func119, Tryz.ntmps119
    go_wp2
    go_ret
    exact ⟨ret_i (by rw [h4.out]), rfl⟩
theorem refNeg_any (b : Nat) (hb : (b : Int) ≤ 18446744073709551615) (w : World) :
    Calls Tryz.prog 121 #[.int .u64 b] w fun e w' => e = .returned (.bool (negB b)) ∧ w = w' := by
  have e1 := Lib.hid (show negB b = (topB b && decide (kindN b ≠ 0)) from rfl)
  have t1 : ((b : Int) / 9223372036854775808 == 1) = topB b := by
    unfold topB; rw [Bool.eq_iff_iff]; simp; omega
  by_cases h : kindN b = 0
  · have e3 := Lib.hid h
    go_enter Tryz.func121, Tryz.ntmps121
    go_wp2_with (first | (go_at_call 119; refine (refKind_any _ hb _).mono ?_; rintro e w' ⟨rfl, rfl⟩))
    go_ret
    exact ⟨bool_ret (by rw [e1.out, e3.out]; simp), rfl⟩
  · have e3 := Lib.hid h
    go_enter Tryz.func121, Tryz.ntmps121
    go_wp2_with (first | (go_at_call 119; refine (refKind_any _ hb _).mono ?_; rintro e w' ⟨rfl, rfl⟩))
    go_ret
    exact ⟨bool_ret (by rw [e1.out]; simp [e3.out]), rfl⟩
theorem agg_iib {k l : IntKind} {a b : Bool} {c d m n : Int} (h2 : c = d) (h3 : m = n) (h1 : a = b) : Ending.returned (.agg #[.int k c, .int l m, .bool a]) = .returned (.agg #[.int k d, .int l n, .bool b]) := by rw [h1, h2, h3]
set_option maxHeartbeats 400000 in
theorem refParts_any (b : Nat) (hb : (b : Int) ≤ 18446744073709551615) (w : World) :
    Calls Tryz.prog 120 #[.int .u64 b] w fun e w' => e = .returned (.agg #[.int .u64 (partM b : Int), .int .i64 (partE b), .bool (partOk b)]) ∧ Below w.heap.size w w' := by
  have e2 := and_e b hb
  have e3 := and_f b hb
  rcases kind_cases b with ⟨h1, h2, h3⟩ | ⟨h1, h2, h3⟩ | ⟨h1, h2, h3⟩ | ⟨h1, h2, h3⟩ | ⟨h1, h2, h3⟩
  · have r := Lib.hid (part_none b (by omega))
    clear h1 h2
    go_enter Tryz.func120, Tryz.ntmps120
    go_wp2_with (first | (go_at_call 119; refine (refKind_any _ hb _).mono ?_; rintro e w' ⟨rfl, rfl⟩))
    refine bodyPost_ret (v := .agg #[.int .u64 0, .int .i64 0, .bool false]) (by simp [results, Tryz.results120, go_sem]) rfl ⟨agg_iib (by rw [r.out.1]; rfl) r.out.2.1.symm r.out.2.2.symm, (Below.refl _ _).alloc (Nat.le_refl _) _⟩
  · have r := Lib.hid (part_none b (by omega))
    clear h1 h2
    go_enter Tryz.func120, Tryz.ntmps120
    go_wp2_with (first | (go_at_call 119; refine (refKind_any _ hb _).mono ?_; rintro e w' ⟨rfl, rfl⟩))
    refine bodyPost_ret (v := .agg #[.int .u64 0, .int .i64 0, .bool false]) (by simp [results, Tryz.results120, go_sem]) rfl ⟨agg_iib (by rw [r.out.1]; rfl) r.out.2.1.symm r.out.2.2.symm, (Below.refl _ _).alloc (Nat.le_refl _) _⟩
  · have r := Lib.hid (part_nought b h3)
    clear h1 h2
    go_enter Tryz.func120, Tryz.ntmps120
    go_wp2_with (first | (go_at_call 119; refine (refKind_any _ hb _).mono ?_; rintro e w' ⟨rfl, rfl⟩))
    refine bodyPost_ret (v := .agg #[.int .u64 0, .int .i64 0, .bool true]) (by simp [results, Tryz.results120, go_sem]) rfl ⟨agg_iib (by rw [r.out.1]; rfl) r.out.2.1.symm r.out.2.2.symm, (Below.refl _ _).alloc (Nat.le_refl _) _⟩
  · have r := Lib.hid (part_small b h3 h1)
    have hf := fN_lt b
    have hf0 : fN b ≠ 0 := h2
    clear h1 h2
    have hs : TwoRel (fN b) (-1074) (fN b) (-1074) := TwoRel.start _ hf0 (by omega)
    have HS := Lib.hid hs
    clear hs
    go_enter Tryz.func120, Tryz.ntmps120
    go_wp2_with (first | (go_at_call 119; refine (refKind_any _ hb _).mono ?_; rintro e w' ⟨rfl, rfl⟩))
    go_loop [3, 4] (fun e f => ∃ (n : Nat) (k : Int), Hid (TwoRel (fN b) (-1074) n k) ∧ e = .int .i64 k ∧ f = .int .u64 (n : Int)) (fun _ f => (intOf f).toNat)
    case atStart => exact ⟨_, _, HS, rfl, rfl⟩
    case round =>
      obtain ⟨n, k, HR, rfl, rfl⟩ := hrel
      obtain ⟨n1, n2, -, -, n5, n6⟩ := HR.out
      by_cases hn : n % 2 = 0
      · have t : ((n : Int) % 2 == 0) = true := by simp; omega
        have HN := Lib.hid (HR.out.step hf0 (by omega) hn)
        clear hn
        go_wp2
        go_round
        case rel => exact ⟨n / 2, k + 1, HN, rfl, by go_num⟩
        case measure => simp [intOf]; omega
      · have t : ((n : Int) % 2 == 0) = false := by simp; omega
        have hd := Lib.hid (HR.out.done (by omega))
        clear hn
        go_wp2
        refine bodyPost_ret (v := .agg #[.int .u64 n, .int .i64 k, .bool true]) (by simp [results, Tryz.results120, go_sem]) rfl ⟨agg_iib (by rw [hd.out.1, r.out.1]) (by rw [hd.out.2, r.out.2.1]) r.out.2.2.symm, (Below.refl _ _).alloc (Nat.le_refl _) _⟩
  · have r := Lib.hid (part_normal b h3 h1)
    have hf := fN_lt b
    have hE := eN_lt b
    have hs' : sig b = fN b + 4503599627370496 := if_neg (by omega)
    have hf0 : sig b ≠ 0 := by omega
    have hsl := sig_lt b
    have e4 : (fN b : Int) + 4503599627370496 = (sig b : Int) := by omega
    clear h1 h2 hs'
    have HS := Lib.hid (TwoRel.start (x := sig b) ((eN b : Int) - 1075) hf0 (by omega))
    go_enter Tryz.func120, Tryz.ntmps120
    go_wp2_with (first | (go_at_call 119; refine (refKind_any _ hb _).mono ?_; rintro e w' ⟨rfl, rfl⟩))
    go_loop [3, 4] (fun e f => ∃ (n : Nat) (k : Int), Hid (TwoRel (sig b) ((eN b : Int) - 1075) n k) ∧ e = .int .i64 k ∧ f = .int .u64 (n : Int)) (fun _ f => (intOf f).toNat)
    case atStart => exact ⟨_, _, HS, rfl, rfl⟩
    case round =>
      obtain ⟨n, k, HR, rfl, rfl⟩ := hrel
      obtain ⟨n1, n2, -, -, n5, n6⟩ := HR.out
      by_cases hn : n % 2 = 0
      · have t : ((n : Int) % 2 == 0) = true := by simp; omega
        have HN := Lib.hid (HR.out.step hf0 (by omega) hn)
        clear hn
        go_wp2
        go_round
        case rel => exact ⟨n / 2, k + 1, HN, rfl, by go_num⟩
        case measure => simp [intOf]; omega
      · have t : ((n : Int) % 2 == 0) = false := by simp; omega
        have hd := Lib.hid (HR.out.done (by omega))
        clear hn
        go_wp2
        refine bodyPost_ret (v := .agg #[.int .u64 n, .int .i64 k, .bool true]) (by simp [results, Tryz.results120, go_sem]) rfl ⟨agg_iib (by rw [hd.out.1, r.out.1]) (by rw [hd.out.2, r.out.2.1]; omega) r.out.2.2.1.symm, (Below.refl _ _).alloc (Nat.le_refl _) _⟩
theorem tab_on {g : Nat} {tab : List Nat} {w w' : World} (h : TabAt g tab w) (h0 : 0 < tab.length) (hb : Below w.heap.size w w') : TabAt g tab w' := by
  have hg : g < w.heap.size := World.block_lt_of_cell? w _ (h 0 h0)
  exact fun j hj => (hb.cell (by exact hg)).trans (h j hj)
theorem tab_below {g : Nat} {tab : List Nat} {N : Nat} {w w' : World} (h : TabAt g tab w) (hg : g < N) (hb : Below N w w') : TabAt g tab w' :=
  fun j hj => (hb.cell (by exact hg)).trans (h j hj)
theorem flip_same {P : Program} {f : FuncId} {args : Array Value} {w : World} {v : Value} (h : Calls P f args w fun e w' => e = .returned v ∧ w = w') : Calls P f args w fun e w' => e = .returned v ∧ w' = w :=
  h.mono fun _ _ ⟨h1, h2⟩ => ⟨h1, h2.symm⟩
theorem tab_drewN {g : Nat} {tab : List Nat} {w : World} (h : TabAt g tab w) (n : Nat) : TabAt g tab (w.drewN n) := by
  intro j hj
  have := h j hj
  simpa using this
theorem made_any (m : Nat) (e : Int) (hm : m < 18446744073709551616) (w : World) (hT : TabAt 4 Lib.deBruijn64tab w) :
    Calls Tryz.prog 148 #[.float .f64 (makeW false m e)] w fun en w' => en = .returned (.tuple #[.int .u64 (partM (makeW false m e) : Int), .int .i64 (partE (makeW false m e)), .bool (partOk (makeW false m e))]) ∧ w = w' :=
  parts_any _ (by have := (make_lt false m e hm).1; omega) w hT
end Go.Proofs.YtdbebebhldldmaaGreatDoor
