/- Texts that the laws of this seat stand on, part 3. -/
import Derived.Shelf.Strings.Builder1
import Derived.Shelf.Small.Wraps
import Derived.Shelf.LaysM
import Derived.Shelf.Strconv.Itoa4
import Derived.Shelf.Strings.Search1
import Derived.Shelf.Strings.Search2
import Derived.Test.YtdbebebhldldmaaGreatDoorPk1
import Derived.Test.YtdbebebhldldmaaGreatDoorProg
import Derived.Test.YtdbebebhldldmaaGreatDoorPk2
import Derived.Test.YtdbebebhldldmaaGreatDoorRows
import Derived.Test.YtdbebebhldldmaaGreatDoorPk0
import Derived.Lib.LaidTab
import Derived.Lib.TrailingZeros
import Derived.Lib.SmallJoins
import Derived.Lib.AppendIntMem
import Derived.Stop.LaidErr
import Derived.LaidLaws
import Derived.ChangeVars
import Derived.ChangeSame
import Derived.JoinedOf
import Derived.RowKit
import Derived.Handed
import Derived.ProofKit
/- The library's contracts that dec calls, laid at this program: strings.CutPrefix, a search for one byte, strconv.FormatInt at base 10, strings.Builder. -/
namespace Go.Proofs
open Go.Shelf
def Tryz.lays103_ren : Go.Shelf.Ren := ⟨fun | 103 => 93 | 210 => 122 | 206 => 137 | n => n, fun | 9 => 9 | 4 => 4 | 24 => 158 | 3 => 3 | n => n, fun | n => n⟩
theorem Tryz.lays103 : Go.Proofs.Lays.n103 Tryz.prog Tryz.lays103_ren := {
  mixed := by kernel_rfl
  f103 := Tryz.func93.trans (congrArg some (by kernel_rfl))
  f206 := Tryz.func137.trans (congrArg some (by kernel_rfl))
  f210 := Tryz.func122.trans (congrArg some (by kernel_rfl))
  t3 := Tryz.underlying3
  a3 := Tryz.isAgg3
  z3 := Tryz.sizeOf3
  v3 := Tryz.zeroValue3
  t4 := Tryz.underlying4
  a4 := Tryz.isAgg4
  z4 := Tryz.sizeOf4
  v4 := Tryz.zeroValue4
  t9 := Tryz.underlying9
  a9 := Tryz.isAgg9
  z9 := Tryz.sizeOf9
  v9 := Tryz.zeroValue9
  t24 := Tryz.underlying158
  a24 := Tryz.isAgg158
  z24 := Tryz.sizeOf158
  v24 := Tryz.zeroValue158 }
open Go.RowKit in
theorem Tryz.strings_CutPrefix (s p : ByteArray) (w : World) :
    Calls Tryz.prog 93 #[.string s, .string p] w fun e w' => e = .returned (.tuple #[.string ⟨(Lib.trimPrefix s.data.toList p.data.toList).toArray⟩, .bool (Lib.hasPrefix s.data.toList p.data.toList)]) ∧ w' = w := Any.strings_CutPrefix Tryz.lays103 s p w
def Tryz.laysM173_ren : Go.Shelf.Ren := ⟨fun | 173 => 62 | 246 => 87 | 283 => 112 | 284 => 113 | 285 => 114 | 286 => 115 | 129 => 107 | 317 => 132 | 318 => 133 | 319 => 134 | 320 => 135 | 337 => 145 | 338 => 146 | n => n, fun | 2 => 2 | 3 => 3 | 9 => 9 | 4 => 4 | 171 => 180 | 0 => 0 | 53 => 40 | 37 => 110 | 5 => 5 | 173 => 182 | 212 => 204 | 51 => 174 | 20 => 20 | 213 => 205 | 46 => 124 | 232 => 220 | 233 => 221 | n => n, fun | 17 => 1 | 18 => 3 | 19 => 4 | n => n⟩
theorem Tryz.laysM173 : Go.Proofs.LaysM.n173 Tryz.prog Tryz.laysM173_ren := {
  mixed := by kernel_rfl
  f129 := Tryz.func107.trans (congrArg some (by kernel_rfl))
  f173 := Tryz.func62.trans (congrArg some (by kernel_rfl))
  f246 := Tryz.func87.trans (congrArg some (by kernel_rfl))
  f283 := Tryz.func112.trans (congrArg some (by kernel_rfl))
  f284 := Tryz.func113.trans (congrArg some (by kernel_rfl))
  f285 := Tryz.func114.trans (congrArg some (by kernel_rfl))
  f286 := Tryz.func115.trans (congrArg some (by kernel_rfl))
  f317 := Tryz.func132.trans (congrArg some (by kernel_rfl))
  f318 := Tryz.func133.trans (congrArg some (by kernel_rfl))
  f319 := Tryz.func134.trans (congrArg some (by kernel_rfl))
  f320 := Tryz.func135.trans (congrArg some (by kernel_rfl))
  f337 := Tryz.func145.trans (congrArg some (by kernel_rfl))
  f338 := Tryz.func146.trans (congrArg some (by kernel_rfl))
  t0 := Tryz.underlying0
  a0 := Tryz.isAgg0
  z0 := Tryz.sizeOf0
  v0 := Tryz.zeroValue0
  t2 := Tryz.underlying2
  a2 := Tryz.isAgg2
  z2 := Tryz.sizeOf2
  v2 := Tryz.zeroValue2
  t3 := Tryz.underlying3
  a3 := Tryz.isAgg3
  z3 := Tryz.sizeOf3
  v3 := Tryz.zeroValue3
  t4 := Tryz.underlying4
  a4 := Tryz.isAgg4
  z4 := Tryz.sizeOf4
  v4 := Tryz.zeroValue4
  t5 := Tryz.underlying5
  a5 := Tryz.isAgg5
  z5 := Tryz.sizeOf5
  v5 := Tryz.zeroValue5
  t9 := Tryz.underlying9
  a9 := Tryz.isAgg9
  z9 := Tryz.sizeOf9
  v9 := Tryz.zeroValue9
  t20 := Tryz.underlying20
  a20 := Tryz.isAgg20
  z20 := Tryz.sizeOf20
  v20 := Tryz.zeroValue20
  t37 := Tryz.underlying110
  a37 := Tryz.isAgg110
  z37 := Tryz.sizeOf110
  v37 := Tryz.zeroValue110
  t46 := Tryz.underlying124
  a46 := Tryz.isAgg124
  z46 := Tryz.sizeOf124
  v46 := Tryz.zeroValue124
  t51 := Tryz.underlying174
  a51 := Tryz.isAgg174
  z51 := Tryz.sizeOf174
  v51 := Tryz.zeroValue174
  t53 := Tryz.underlying40
  a53 := Tryz.isAgg40
  z53 := Tryz.sizeOf40
  v53 := Tryz.zeroValue40
  t171 := Tryz.underlying180
  a171 := Tryz.isAgg180
  z171 := Tryz.sizeOf180
  v171 := Tryz.zeroValue180
  t173 := Tryz.underlying182
  a173 := Tryz.isAgg182
  z173 := Tryz.sizeOf182
  v173 := Tryz.zeroValue182
  t212 := Tryz.underlying204
  a212 := Tryz.isAgg204
  z212 := Tryz.sizeOf204
  v212 := Tryz.zeroValue204
  t213 := Tryz.underlying205
  a213 := Tryz.isAgg205
  z213 := Tryz.sizeOf205
  t232 := Tryz.underlying220
  a232 := Tryz.isAgg220
  z232 := Tryz.sizeOf220
  v232 := Tryz.zeroValue220
  t233 := Tryz.underlying221
  a233 := Tryz.isAgg221
  z233 := Tryz.sizeOf221
  v233 := Tryz.zeroValue221
  g17 := by kernel_rfl
  g18 := by kernel_rfl
  g19 := by kernel_rfl
  i0 := by kernel_rfl
  i2 := by kernel_rfl
  i3 := by kernel_rfl
  i4 := by kernel_rfl
  i5 := by kernel_rfl
  i9 := by kernel_rfl
  i20 := by kernel_rfl
  i37 := by kernel_rfl
  i46 := by kernel_rfl
  i51 := by kernel_rfl
  i53 := by kernel_rfl
  i171 := by kernel_rfl
  i173 := by kernel_rfl
  i212 := by kernel_rfl
  i232 := by kernel_rfl
  i233 := by kernel_rfl
  m17 := by kernel_rfl
  m18 := by kernel_rfl
  m19 := by kernel_rfl }
def Tryz.lays219_ren : Go.Shelf.Ren := ⟨fun | 219 => 143 | 217 => 150 | 225 => 151 | 224 => 152 | 267 => 153 | 266 => 156 | 314 => 157 | n => n, fun | 9 => 9 | 3 => 3 | 4 => 4 | 5 => 5 | 46 => 124 | 146 => 226 | 51 => 174 | n => n, fun | 1 => 2 | n => n⟩
theorem Tryz.lays219 : Go.Proofs.Lays.n219 Tryz.prog Tryz.lays219_ren := {
  mixed := by kernel_rfl
  f217 := Tryz.func150.trans (congrArg some (by kernel_rfl))
  f219 := Tryz.func143.trans (congrArg some (by kernel_rfl))
  f224 := Tryz.func152.trans (congrArg some (by kernel_rfl))
  f225 := Tryz.func151.trans (congrArg some (by kernel_rfl))
  f266 := Tryz.func156.trans (congrArg some (by kernel_rfl))
  f267 := Tryz.func153.trans (congrArg some (by kernel_rfl))
  f314 := Tryz.func157.trans (congrArg some (by kernel_rfl))
  t3 := Tryz.underlying3
  a3 := Tryz.isAgg3
  z3 := Tryz.sizeOf3
  v3 := Tryz.zeroValue3
  t4 := Tryz.underlying4
  a4 := Tryz.isAgg4
  z4 := Tryz.sizeOf4
  v4 := Tryz.zeroValue4
  t5 := Tryz.underlying5
  a5 := Tryz.isAgg5
  z5 := Tryz.sizeOf5
  v5 := Tryz.zeroValue5
  t9 := Tryz.underlying9
  a9 := Tryz.isAgg9
  z9 := Tryz.sizeOf9
  v9 := Tryz.zeroValue9
  t46 := Tryz.underlying124
  a46 := Tryz.isAgg124
  z46 := Tryz.sizeOf124
  v46 := Tryz.zeroValue124
  t51 := Tryz.underlying174
  a51 := Tryz.isAgg174
  z51 := Tryz.sizeOf174
  v51 := Tryz.zeroValue174
  t146 := Tryz.underlying226
  a146 := Tryz.isAgg226
  z146 := Tryz.sizeOf226
  v146 := Tryz.zeroValue226
  g1 := by kernel_rfl }
open Go.RowKit Go.Lib in
theorem Tryz.stringslite_Index_one (s : ByteArray) (c : UInt8) (w : World) :
    Calls Tryz.prog 143 #[.string s, .string ⟨#[c]⟩] w fun e w' => e = .returned (.int .i64 (Lib.indexByte s.data.toList c)) ∧ w' = w := Any.stringslite_Index_one Tryz.lays219 s c w
end Go.Proofs
/- Contracts for dec's functions that read one number. -/
namespace Go.Proofs.YtdbebebhldldmaaGreatDoor
open Go.RowKit Go.ChangeShapes DecPure
theorem below_iter (w : World) (s : ByteArray) (pos : Nat) : Below w.heap.size w (w.iter s pos) := (Below.refl _ _).alloc (Nat.le_refl _) _
set_option maxHeartbeats 400000 in
theorem plain_any (s : ByteArray) (w : World) :
    Calls Tryz.prog 141 #[.string s] w fun e w' => e = .returned (.bool (plainB s.data.toList)) ∧ Below w.heap.size w w' := by
  have H0 : Hid (DigTo s 0) := Lib.hid ⟨Nat.zero_le _, fun c hc => by simp at hc⟩
  go_enter Tryz.func141, Tryz.ntmps141
  go_wp2
  go_loopw [] (fun wr => ∃ pos : Nat, wr = w.iter s pos ∧ Hid (DigTo s pos)) (fun wr => s.size - wr.iterPos w.heap.size)
  case atStart => exact ⟨0, rfl, H0⟩
  case round =>
    obtain ⟨pos, rfl, HD⟩ := hrel
    by_cases hp : pos < s.size
    · cases hd : dig s[pos] with
      | true =>
        obtain ⟨h1, h2⟩ := (dig_iff _).1 hd
        have HN := Lib.hid (digTo_next HD.out hp hd)
        have hnx : ∀ ty, (Instr.next (.pointer (some ⟨w.heap.size, 0, none⟩)) true ty).run Tryz.prog (w.iter s pos) = _ := fun ty => run_next_ascii w s pos ty hp (by omega)
        have g1 : (48 : Int) ≤ (s[pos].toNat : Int) := by omega
        have g2 : (s[pos].toNat : Int) ≤ 57 := by omega
        clear hd h1 h2
        generalize s[pos].toNat = r at *
        go_wp2
        go_roundw
        case rel => exact ⟨pos + 1, rfl, HN⟩
        case measure => simp; omega
      | false =>
        have HX := Lib.hid (plain_no hp hd)
        have hrn := rune_no s pos hp hd
        have hnx : ∀ ty, (Instr.next (.pointer (some ⟨w.heap.size, 0, none⟩)) true ty).run Tryz.prog (w.iter s pos) = _ := fun ty => run_next_any w s pos ty hp
        clear hd
        generalize (Utf8.decode s pos).1 = r at *
        rcases hrn with hr | hr
        all_goals
          go_wp2
          go_ret
          exact ⟨bool_ret HX.out.symm, below_iter _ _ _⟩
    · have hnx : ∀ ty, (Instr.next (.pointer (some ⟨w.heap.size, 0, none⟩)) true ty).run Tryz.prog (w.iter s pos) = _ := fun ty => run_next_end w s pos ty hp
      have hk : pos = s.size := Nat.le_antisymm HD.out.1 (Nat.le_of_not_lt hp)
      have HA := Lib.hid (digTo_all hk HD.out)
      clear hk
      go_wp2
      · have e : s.toList = [48] := by assumption
        go_ret
        exact ⟨bool_ret (plain_lone e).symm, below_iter _ _ _⟩
      · have e : s.toList = [] := by assumption
        go_ret
        exact ⟨bool_ret (plain_void e).symm, below_iter _ _ _⟩
      · have e1 : ¬ s.toList = [48] := by assumption
        have e2 : ¬ s.toList = [] := by assumption
        have e3 : 0 < s.size := by assumption
        go_ret
        refine ⟨bool_ret ?_, below_iter _ _ _⟩
        rw [plain_head HA.out e1 e2 e3]
        rw [byte_ne, show (s.toList == [48]) = false by simpa using e1, show s.toList.isEmpty = false by simpa using e2]
        rfl
      · have e2 : ¬ s.toList = [] := by assumption
        have e3 : ¬ 0 < s.size := by assumption
        exact absurd (size_pos e2) e3
/-- How far below 0 digits lie, where there is room. -/
def downB (l : List UInt8) : Bool := decide (numV l ≤ 9223372036854775808)
def downN (l : List UInt8) : Int := if downB l then -(numV l : Int) else 0
theorem down_in {l : List UInt8} (h : numV l ≤ 9223372036854775808) : downB l = true ∧ downN l = -(numV l : Int) := by
  have hb : downB l = true := by unfold downB; simpa using h
  exact ⟨hb, by unfold downN; rw [if_pos hb]⟩
theorem down_out {l : List UInt8} (h : ¬ numV l ≤ 9223372036854775808) : downB l = false ∧ downN l = 0 := by
  have hb : downB l = false := by unfold downB; simpa using h
  exact ⟨hb, by unfold downN; rw [if_neg (by simp [hb])]⟩
/-- At the head of a round: the number so far. -/
def SoFar (s : ByteArray) (pos v : Nat) : Prop := pos ≤ s.size ∧ numV (s.data.toList.take pos) = v
theorem so_next {s : ByteArray} {pos v : Nat} (h : SoFar s pos v) (hp : pos < s.size) : SoFar s (pos + 1) (10 * v + dv s[pos]) := by
  refine ⟨hp, ?_⟩
  rw [take_next s pos hp, numV_snoc, h.2]
theorem so_le {s : ByteArray} {pos v : Nat} (h : SoFar s pos v) : v ≤ numV s.data.toList := by
  rw [← h.2]
  have := num_le_append (s.data.toList.take pos) (s.data.toList.drop pos)
  rwa [List.take_append_drop] at this
theorem so_end {s : ByteArray} {pos v : Nat} (h : SoFar s pos v) (hp : ¬ pos < s.size) : numV s.data.toList = v := by
  rw [← h.2, List.take_of_length_le]
  simp; omega
theorem down_room (d : Nat) (hd : d < 10) : (-9223372036854775808 + (48 + (d : Int) - 48)).tdiv 10 = -((9223372036854775808 - (d : Int)) / 10) := by
  rw [show -9223372036854775808 + (48 + (d : Int) - 48) = -(9223372036854775808 - (d : Int)) by omega, Int.neg_tdiv, Int.tdiv_eq_ediv_of_nonneg (by omega)]
set_option maxHeartbeats 400000 in
theorem down_any (s : ByteArray) (w : World) (hd : ∀ c ∈ s.data.toList, dig c = true) :
    Calls Tryz.prog 142 #[.string s] w fun e w' => e = .returned (.tuple #[.int .i64 (downN s.data.toList), .bool (downB s.data.toList)]) ∧ Below w.heap.size w w' := by
  have HD := Lib.hid hd
  have H0 : Hid (SoFar s 0 0) := Lib.hid ⟨Nat.zero_le _, rfl⟩
  clear hd
  go_enter Tryz.func142, Tryz.ntmps142
  go_wp2
  go_loopw [4] (fun n wr => ∃ pos v : Nat, wr = w.iter s pos ∧ n = .int .i64 (-(v : Int)) ∧ v ≤ 9223372036854775808 ∧ Hid (SoFar s pos v)) (fun _ wr => s.size - wr.iterPos w.heap.size)
  case atStart => exact ⟨0, 0, rfl, rfl, by omega, H0⟩
  case round =>
    obtain ⟨pos, v, rfl, rfl, hv, HS⟩ := hrel
    by_cases hp : pos < s.size
    · have hdg := HD.out _ (mem_at s pos hp)
      obtain ⟨h1, h2⟩ := (dig_iff _).1 hdg
      have hdv : s[pos].toNat = 48 + dv s[pos] := by unfold dv; omega
      have HN := Lib.hid (so_next HS.out hp)
      have HL := Lib.hid (so_le HN.out)
      have hd9 := (make_dig _ hdg).2
      have hnx : ∀ ty, (Instr.next (.pointer (some ⟨w.heap.size, 0, none⟩)) true ty).run Tryz.prog (w.iter s pos) = .ok (.tuple #[.bool true, .int .i64 pos, .int .i32 (48 + (dv s[pos] : Int))]) (w.iter s (pos + 1)) := by
        intro ty
        rw [run_next_ascii w s pos ty hp (by omega), hdv]
        simp
      clear hdg h1 h2 hdv
      generalize dv s[pos] = d at *
      by_cases hfit : 10 * v + d ≤ 9223372036854775808
      · have ht : decide (-(v : Int) < (-9223372036854775808 + (48 + (d : Int) - 48)).tdiv 10) = false := decide_eq_false (by rw [down_room d hd9]; omega)
        have g1 : (v : Int) ≤ 922337203685477580 := by omega
        have g2 : 10 * (v : Int) + (d : Int) ≤ 9223372036854775808 := by omega
        go_wp2
        go_roundw
        case rel => exact ⟨pos + 1, 10 * v + d, rfl, by go_num, hfit, HN⟩
        case measure => simp; omega
      · have ht : decide (-(v : Int) < (-9223372036854775808 + (48 + (d : Int) - 48)).tdiv 10) = true := decide_eq_true (by rw [down_room d hd9]; omega)
        go_wp2
        go_ret2
        obtain ⟨e1, e2⟩ := down_out (l := s.data.toList) (by have := HL.out; omega)
        exact ⟨ret_ib e2.symm e1.symm, below_iter _ _ _⟩
    · have hnx : ∀ ty, (Instr.next (.pointer (some ⟨w.heap.size, 0, none⟩)) true ty).run Tryz.prog (w.iter s pos) = _ := fun ty => run_next_end w s pos ty hp
      have HE := Lib.hid (so_end HS.out hp)
      go_wp2
      go_ret2
      obtain ⟨e1, e2⟩ := down_in (l := s.data.toList) (by rw [HE.out]; exact hv)
      exact ⟨ret_ib (by rw [e2, HE.out]) e1.symm, below_iter _ _ _⟩
theorem minus_prefix (l : List UInt8) : Lib.hasPrefix l [45] = negB l ∧ Lib.trimPrefix l [45] = tailD l := by
  have h : Lib.hasPrefix l [45] = negB l := by
    unfold Lib.hasPrefix negB
    cases l with
    | nil => rfl
    | cons x t =>
      by_cases hx : x = 45
      · subst hx; rfl
      · have h1 : ((45 : UInt8) == x) = false := beq_eq_false_iff_ne.2 fun e => hx e.symm
        have h2 : (some x == some (45 : UInt8)) = false := by simpa using hx
        show ((45 : UInt8) == x && List.isPrefixOf [] t) = (some x == some (45 : UInt8))
        rw [h1, h2]; rfl
  refine ⟨h, ?_⟩
  unfold Lib.trimPrefix tailD
  rw [h]
  simp
/-- What stands behind -, and whether it is there. -/
theorem cutMinus_any (s : ByteArray) (w : World) :
    Calls Tryz.prog 93 #[.string s, .string ⟨#[45]⟩] w fun e w' => (∃ D : ByteArray, D.data.toList = tailD s.data.toList ∧ e = .returned (.tuple #[.string D, .bool (negB s.data.toList)])) ∧ w = w' :=
  (Tryz.strings_CutPrefix s ⟨#[45]⟩ w).mono fun e w' ⟨he, hw⟩ => by
    obtain ⟨h1, h2⟩ := minus_prefix s.data.toList
    refine ⟨⟨⟨(tailD s.data.toList).toArray⟩, by simp, ?_⟩, hw.symm⟩
    rw [he]
    show Ending.returned (.tuple #[.string ⟨(Lib.trimPrefix s.data.toList [45]).toArray⟩, .bool (Lib.hasPrefix s.data.toList [45])]) = _
    rw [h1, h2]
theorem ret_iiD {k l : IntKind} {a b c d : Int} (h1 : a = b) (h2 : c = d) : Ending.returned (.tuple #[.int k a, .int l c]) = .returned (.tuple #[.int k b, .int l d]) := by rw [h1, h2]
set_option maxHeartbeats 1000000 in
/-- What the program reads of a text. -/
theorem parse_any (s : ByteArray) (w : World) :
    Calls Tryz.prog 124 #[.string s] w fun e w' => e = .returned (.tuple #[.int .i64 (parseN s.data.toList), .int .i64 (parseE s.data.toList)]) ∧ Below w.heap.size w w' := by
  have HF := Lib.hid (form_iff s.data.toList)
  have HV : Hid (valI s.data.toList = if negB s.data.toList then -(numV (tailD s.data.toList) : Int) else (numV (tailD s.data.toList) : Int)) := Lib.hid rfl
  have HP := Lib.hid (parse_cases s.data.toList)
  have HC := Lib.hid (cutMinus_any s w)
  generalize negB s.data.toList = ng at *
  generalize tailD s.data.toList = td at *
  generalize formB s.data.toList = fm at *
  generalize valI s.data.toList = vl at *
  generalize parseE s.data.toList = pe at *
  generalize parseN s.data.toList = pn at *
  go_enter Tryz.func124, Tryz.ntmps124
  go_wp2_with fail
  refine HC.out.mono ?_
  rintro e w' ⟨⟨D, hD, rfl⟩, rfl⟩
  subst hD
  clear HC
  go_wp2_with fail
  refine (plain_any D w).mono ?_
  rintro e w1 ⟨rfl, hb1⟩
  have HB1 := Lib.hid hb1
  clear hb1
  cases hpl : plainB D.data.toList with
  | false =>
    have hr : pe = 2 ∧ pn = 0 := by
      have hfm : fm = false := by
        cases fm with
        | false => rfl
        | true => have := (HF.out.1 rfl).1; rw [hpl] at this; cases this
      subst hfm
      rcases HP.out with ⟨-, h1, h2⟩ | ⟨h, -⟩ | ⟨h, -⟩
      · exact ⟨h1, h2⟩
      · cases h
      · cases h
    have HR := Lib.hid hr
    clear hr
    go_wp2
    go_ret2
    exact ⟨ret_iiD HR.out.2.symm HR.out.1.symm, HB1.out⟩
  | true =>
    by_cases h0 : ng = true ∧ D.toList = [48]
    · obtain ⟨rfl, h0⟩ := h0
      have hr : pe = 2 ∧ pn = 0 := by
        have hfm : fm = false := by
          cases fm with
          | false => rfl
          | true => exact absurd ⟨rfl, by rw [← Lib.toList_data]; exact h0⟩ (HF.out.1 rfl).2
        subst hfm
        rcases HP.out with ⟨-, h1, h2⟩ | ⟨h, -⟩ | ⟨h, -⟩
        · exact ⟨h1, h2⟩
        · cases h
        · cases h
      have HR := Lib.hid hr
      clear hr
      have h0b : (D.toList == [48]) = true := by simpa using h0
      clear h0
      go_wp2
      go_ret2
      exact ⟨ret_iiD HR.out.2.symm HR.out.1.symm, HB1.out⟩
    · have hfm : fm = true := HF.out.2 ⟨hpl, fun ⟨a, b⟩ => h0 ⟨a, by rw [Lib.toList_data]; exact b⟩⟩
      subst hfm
      have HPL := Lib.hid (plain_dig hpl)
      have HP' : Hid ((fitsI vl = false ∧ pe = 10 ∧ pn = 0) ∨ (fitsI vl = true ∧ pe = 0 ∧ pn = vl)) := by
        refine Lib.hid ?_
        rcases HP.out with ⟨h, -⟩ | ⟨-, h⟩ | ⟨-, h⟩
        · cases h
        · exact Or.inl h
        · exact Or.inr h
      clear HP HF
      have HDN : Hid ((downB D.data.toList = true ∧ downN D.data.toList = -(numV D.data.toList : Int) ∧ numV D.data.toList ≤ 9223372036854775808) ∨ (downB D.data.toList = false ∧ downN D.data.toList = 0 ∧ 9223372036854775808 < numV D.data.toList)) := by
        refine Lib.hid ?_
        by_cases h : numV D.data.toList ≤ 9223372036854775808
        · obtain ⟨a, b⟩ := down_in h; exact Or.inl ⟨a, b, h⟩
        · obtain ⟨a, b⟩ := down_out h; exact Or.inr ⟨a, b, by omega⟩
      cases ng with
      | true =>
        have h0b : (D.toList == [48]) = false := by simpa using fun e => h0 ⟨rfl, e⟩
        clear h0
        go_wp2_with fail
        refine (down_any D w1 HPL.out).mono ?_
        rintro e w2 ⟨rfl, hb2⟩
        have HB2 := Lib.hid (HB1.out.trans (hb2.mono HB1.out.size))
        clear hb2
        have hf := (fits_iff vl)
        have hv : vl = -(numV D.data.toList : Int) := by simpa using HV.out
        clear HV
        generalize downB D.data.toList = db at *
        generalize downN D.data.toList = dn at *
        generalize numV D.data.toList = v at *
        rcases HDN.out with ⟨rfl, h2, h3⟩ | ⟨rfl, h2, h3⟩
        · have HR : Hid (pe = 0 ∧ pn = dn) := by
            refine Lib.hid ?_
            have : fitsI vl = true := hf.2 (by omega)
            rcases HP'.out with ⟨a, -⟩ | ⟨-, a, b⟩
            · rw [this] at a; cases a
            · exact ⟨a, by omega⟩
          clear hf hv h2 h3
          go_wp2
          go_ret2
          exact ⟨ret_iiD HR.out.2.symm HR.out.1.symm, HB2.out⟩
        · have HR : Hid (pe = 10 ∧ pn = 0) := by
            refine Lib.hid ?_
            rcases HP'.out with ⟨-, a, b⟩ | ⟨a, -⟩
            · exact ⟨a, b⟩
            · have := hf.1 a; omega
          clear hf hv h2 h3
          go_wp2
          go_ret2
          exact ⟨ret_iiD HR.out.2.symm HR.out.1.symm, HB2.out⟩
      | false =>
        clear h0
        go_wp2_with fail
        refine (down_any D w1 HPL.out).mono ?_
        rintro e w2 ⟨rfl, hb2⟩
        have HB2 := Lib.hid (HB1.out.trans (hb2.mono HB1.out.size))
        clear hb2
        have hf := (fits_iff vl)
        have hv : vl = (numV D.data.toList : Int) := by simpa using HV.out
        clear HV
        generalize downB D.data.toList = db at *
        generalize downN D.data.toList = dn at *
        generalize numV D.data.toList = v at *
        rcases HDN.out with ⟨rfl, h2, h3⟩ | ⟨rfl, h2, h3⟩
        · by_cases h4 : v = 9223372036854775808
          · have HR : Hid (pe = 10 ∧ pn = 0) := by
              refine Lib.hid ?_
              rcases HP'.out with ⟨-, a, b⟩ | ⟨a, -⟩
              · exact ⟨a, b⟩
              · have := hf.1 a; omega
            have t : (dn != -9223372036854775808) = false := by rw [h2, h4]; rfl
            have t2 : (dn == -9223372036854775808) = true := by rw [h2, h4]; rfl
            clear hf hv h2 h3 h4
            go_wp2
            go_ret2
            exact ⟨ret_iiD HR.out.2.symm HR.out.1.symm, HB2.out⟩
          · have HR : Hid (pe = 0 ∧ pn = -dn) := by
              refine Lib.hid ?_
              have : fitsI vl = true := hf.2 (by omega)
              rcases HP'.out with ⟨a, -⟩ | ⟨-, a, b⟩
              · rw [this] at a; cases a
              · exact ⟨a, by omega⟩
            have t : (dn != -9223372036854775808) = true := by rw [bne_iff_ne]; omega
            have t2 : (dn == -9223372036854775808) = false := by rw [beq_eq_false_iff_ne]; omega
            have g1 : -9223372036854775807 ≤ dn := by omega
            have g2 : dn ≤ 0 := by omega
            clear hf hv h2 h3 h4
            go_wp2
            go_ret2
            exact ⟨ret_iiD HR.out.2.symm HR.out.1.symm, HB2.out⟩
        · have HR : Hid (pe = 10 ∧ pn = 0) := by
            refine Lib.hid ?_
            rcases HP'.out with ⟨-, a, b⟩ | ⟨a, -⟩
            · exact ⟨a, b⟩
            · have := hf.1 a; omega
          clear hf hv h3
          subst h2
          go_wp2
          go_ret2
          exact ⟨ret_iiD HR.out.2.symm HR.out.1.symm, HB2.out⟩
end Go.Proofs.YtdbebebhldldmaaGreatDoor
/- The library's tables, as the rows of this seat list them: what the condition gives a walk, and a world that meets it; a number's text by the library's contract. -/
namespace Go.Proofs.YtdbebebhldldmaaGreatDoor
open Go.ChangeShapes Go.WideShapes Go.ChangeAt Go.RowKit
theorem own : ownKnob Tryz.prog.godebug = none := by kernel_rfl
/-- The name of the table of powers of ten. -/
def tenName : String := ((Rows.gprintTellsRow.laid.map (·.1))[2]?).getD ""
theorem tenGlobal : Tryz.prog.globalNamed tenName = some 1 := by kernel_rfl
/-- The table of powers of ten lies as the library lays it. -/
def Ten (w : World) : Prop := Lib.TabIs Tryz.prog w tenName .u64 Lib.pow10Tab
theorem Ten.over {w w' : World} {B : Nat} (h : Ten w) (hb : Below B w w') (hB : w.heap.size ≤ B) : Ten w' := Joins.tab_stays tenGlobal h hb hB
theorem Ten.on {w w' : World} (h : Ten w) (hb : Below w.heap.size w w') : Ten w' := h.over hb (Nat.le_refl _)
theorem ten_of_laid {W : World} (h : laidMetH Tryz.prog Rows.gprintTellsRow.laid W) : Ten W := by
  have h' : laidMet Tryz.prog (_ :: _ :: (tenName, Lib.tabData .u64 Lib.pow10Tab) :: []) W := h
  exact Lib.tabIs_of_head (t := 204) (n := 20) tenGlobal (by kernel_rfl) Tryz.underlying204 Tryz.underlying40 (by kernel_rfl) (by kernel_rfl) h'.tail.tail
/-- A number's text. -/
theorem format_any (n : Int) (h0 : -9223372036854775808 ≤ n) (h1 : n ≤ 9223372036854775807) (w : World) (hT : Ten w) :
    Calls Tryz.prog 62 #[.int .i64 n, .int .i64 10] w fun e w' => e = .returned (.string ⟨(Lib.itoa n).toArray⟩) ∧ Below w.heap.size w w' :=
  (Any.strconv_FormatInt_10 Tryz.laysM173 n h0 h1 w hT).mono fun _ _ ⟨he, k, os, hw⟩ => ⟨he, by rw [hw]; exact Lib.below_grow _ _ (Nat.le_refl _) _ _⟩
/-- The settled world, the tables' cells laid. -/
def laidWorld (P : Program) (os : Os) : World :=
  { World.holding P os ⟨#[], #[], []⟩ with heap := (((World.holding P os ⟨#[], #[], []⟩).heap.setIfInBounds 3 (.cells (Lib.deBruijn32tab.map fun z : Nat => Value.int .u8 (z : Int)).toArray 220)).setIfInBounds 4 (.cells (Lib.deBruijn64tab.map fun z : Nat => Value.int .u8 (z : Int)).toArray 221)).setIfInBounds 1 (.cells (Lib.pow10Tab.map fun z : Int => Value.int .u64 z).toArray 204) }
theorem laid_met (os : Os) (args : Array Value) : laidMetH Tryz.prog Rows.gprintTellsRow.laid ((laidWorld Tryz.prog os).forCall (fun _ _ => 0) ⟨#[], args, []⟩).memory := by
  have h : laidMet Tryz.prog Rows.gprintTellsRow.laid ((laidWorld Tryz.prog os).forCall (fun _ _ => 0) ⟨#[], args, []⟩).memory := laidMet_of_run' 8 (by kernel_rfl) (by kernel_rfl)
  exact h
end Go.Proofs.YtdbebebhldldmaaGreatDoor
/- Contract of dec's Print. -/
namespace Go.Proofs.YtdbebebhldldmaaGreatDoor
open Go.RowKit Go.ChangeShapes DecPure
theorem print_any (n : Int) (h0 : -9223372036854775808 ≤ n) (h1 : n ≤ 9223372036854775807) (w : World) (hT : Ten w) :
    Calls Tryz.prog 30 #[.int .i64 n] w fun e w' => e = .returned (.string ⟨(Lib.itoa n).toArray⟩) ∧ Below w.heap.size w w' := by
  have HC := Lib.hid (format_any n h0 h1 w hT)
  clear hT
  go_enter Tryz.func30, Tryz.ntmps30
  go_wp2_with fail
  refine HC.out.mono ?_
  rintro e w' ⟨rfl, hb⟩
  have HBW := Lib.hid hb
  clear HC hb
  go_wp2
  go_ret
  exact ⟨rfl, HBW.out⟩
end Go.Proofs.YtdbebebhldldmaaGreatDoor
