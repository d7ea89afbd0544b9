/- Any calls of Give, Free, Set and At on an arena of any room, one behind the other, answer as the document's arena does; so do Len, Room and Live behind each of them. Conditions: none: every room, every slice of calls (of more than two hundred the law asks only that the program gives cells at all). -/
import Derived.Test.YtjemahnhdgkpcaaArenaPlay
import Derived.Test.YtjemahnhdgkpcaaChecked
import Derived.Test.YtjemahnhdgkpcaaRows
import Derived.ChangeSlices
import Derived.ProofKit
import Derived.OpenShut
import Derived.ChangeOld
import Derived.Below
import Derived.Deep.RegionHeld3
import Derived.Carry
namespace Go.Proofs.Ytjemahnhdgkpcaa.arenaPlays
open Go.ChangeShapes Go.WideShapes Go.ChangeAt Go.RowKit ArenaPure
section
variable (w : World) (b b2 N : Nat) (S T : St) (Bo Bw : Nat) (ko no xo u : Int) (v : Bool) (W : World)
theorem give_r (x : Int) (h : RoundAt w b b2 N S T Bo Bw ko no xo u v W) :
    Calls Try.prog 8 #[.pointer (some ⟨b, 0, none⟩), .int .i64 x] W fun e W' => e = .returned (.tuple #[.int .i64 (giveN N S), .bool (giveB N S)]) ∧ RoundAt w b b2 N (giveS N S x) T Bo Bw ko no xo u v W' := by
  obtain ⟨O, O2, ha, hr, hd, hn⟩ := h.2.2.1
  refine (give_any O b N S x W ha).mono ?_
  rintro e W' ⟨rfl, ht, O', ho, ha'⟩
  exact ⟨rfl, h.turn ha hr hd hn ht ho ha'⟩
theorem give_r2 (x : Int) (h : RoundAt w b b2 N S T Bo Bw ko no xo u v W) :
    Calls Try.prog 9 #[.pointer (some ⟨b2, 0, none⟩), .int .i64 x] W fun e W' => e = .returned (.agg #[.int .i64 (giveN N T), .bool (giveB N T)]) ∧ RoundAt w b b2 N S (giveS N T x) Bo Bw ko no xo u v W' := by
  obtain ⟨O, O2, ha, hr, hd, hn⟩ := h.2.2.1
  refine (giveRef_any O2 b2 N T x W hr).mono ?_
  rintro e W' ⟨rfl, ht, O', ho, hr'⟩
  exact ⟨rfl, h.turn2 ha hr hd hn ht ho hr'⟩
theorem free_r (n : Int) (h : RoundAt w b b2 N S T Bo Bw ko no xo u v W) :
    Calls Try.prog 10 #[.pointer (some ⟨b, 0, none⟩), .int .i64 n] W fun e W' => e = .returned (.tuple #[.int .i64 (atV S n), .bool (hasB S n)]) ∧ RoundAt w b b2 N (freeS S n) T Bo Bw ko no xo u v W' := by
  obtain ⟨O, O2, ha, hr, hd, hn⟩ := h.2.2.1
  refine (free_any O b N S n W ha).mono ?_
  rintro e W' ⟨rfl, ht, ha'⟩
  exact ⟨rfl, h.turn ha hr hd hn ht (fun _ e => Or.inl e) ha'⟩
theorem free_r2 (n : Int) (h : RoundAt w b b2 N S T Bo Bw ko no xo u v W) :
    Calls Try.prog 11 #[.pointer (some ⟨b2, 0, none⟩), .int .i64 n] W fun e W' => e = .returned (.agg #[.int .i64 (atV T n), .bool (hasB T n)]) ∧ RoundAt w b b2 N S (freeS T n) Bo Bw ko no xo u v W' := by
  obtain ⟨O, O2, ha, hr, hd, hn⟩ := h.2.2.1
  refine (dropRef_any O2 b2 N T n W hr).mono ?_
  rintro e W' ⟨rfl, ht, O', ho, hr'⟩
  exact ⟨rfl, h.turn2 ha hr hd hn ht ho hr'⟩
theorem set_r (n x : Int) (h : RoundAt w b b2 N S T Bo Bw ko no xo u v W) :
    Calls Try.prog 12 #[.pointer (some ⟨b, 0, none⟩), .int .i64 n, .int .i64 x] W fun e W' => e = .returned (.bool (hasB S n)) ∧ RoundAt w b b2 N (setS S n x) T Bo Bw ko no xo u v W' := by
  obtain ⟨O, O2, ha, hr, hd, hn⟩ := h.2.2.1
  refine (set_any O b N S n x W ha).mono ?_
  rintro e W' ⟨rfl, ht, ha'⟩
  exact ⟨rfl, h.turn ha hr hd hn ht (fun _ e => Or.inl e) ha'⟩
theorem set_r2 (n x : Int) (h : RoundAt w b b2 N S T Bo Bw ko no xo u v W) :
    Calls Try.prog 13 #[.pointer (some ⟨b2, 0, none⟩), .int .i64 n, .int .i64 x] W fun e W' => e = .returned (.bool (hasB T n)) ∧ RoundAt w b b2 N S (setS T n x) Bo Bw ko no xo u v W' := by
  obtain ⟨O, O2, ha, hr, hd, hn⟩ := h.2.2.1
  refine (setRef_any O2 b2 N T n x W hr).mono ?_
  rintro e W' ⟨rfl, ht, hr'⟩
  exact ⟨rfl, h.turn2 ha hr hd hn ht (fun _ e => Or.inl e) hr'⟩
theorem at_r (n : Int) (h : RoundAt w b b2 N S T Bo Bw ko no xo u v W) :
    Calls Try.prog 14 #[.pointer (some ⟨b, 0, none⟩), .int .i64 n] W fun e W' => e = .returned (.tuple #[.int .i64 (atV S n), .bool (hasB S n)]) ∧ RoundAt w b b2 N S T Bo Bw ko no xo u v W' := by
  obtain ⟨O, O2, ha, hr, hd, hn⟩ := h.2.2.1
  refine (at_any O b N S n W ha).mono ?_
  rintro e W' ⟨rfl, rfl⟩
  exact ⟨rfl, h⟩
theorem at_r2 (n : Int) (h : RoundAt w b b2 N S T Bo Bw ko no xo u v W) :
    Calls Try.prog 15 #[.pointer (some ⟨b2, 0, none⟩), .int .i64 n] W fun e W' => e = .returned (.agg #[.int .i64 (atV T n), .bool (hasB T n)]) ∧ RoundAt w b b2 N S T Bo Bw ko no xo u v W' := by
  obtain ⟨O, O2, ha, hr, hd, hn⟩ := h.2.2.1
  refine (atRef_any O2 b2 N T n W hr).mono ?_
  rintro e W' ⟨rfl, hb⟩
  exact ⟨rfl, h.keep hb⟩
theorem len_r (h : RoundAt w b b2 N S T Bo Bw ko no xo u v W) :
    Calls Try.prog 17 #[.pointer (some ⟨b, 0, none⟩)] W fun e W' => e = .returned (.int .i64 (liveN S : Int)) ∧ W = W' := by
  obtain ⟨O, O2, ha, hr, hd, hn⟩ := h.2.2.1
  exact len_any O b N S W ha
theorem room_r (h : RoundAt w b b2 N S T Bo Bw ko no xo u v W) :
    Calls Try.prog 18 #[.pointer (some ⟨b, 0, none⟩)] W fun e W' => e = .returned (.int .i64 (N : Int)) ∧ W = W' := by
  obtain ⟨O, O2, ha, hr, hd, hn⟩ := h.2.2.1
  exact room_any O b N S W ha
theorem live_r (h : RoundAt w b b2 N S T Bo Bw ko no xo u v W) :
    Calls Try.prog 20 #[.pointer (some ⟨b, 0, none⟩)] W fun e W' => ∃ q c, e = .returned (.slice q (liveL S).length c) ∧ ReadsL encZ W'.heap.size W' q (liveL S) ∧ Below W.heap.size W W' := by
  obtain ⟨O, O2, ha, hr, hd, hn⟩ := h.2.2.1
  refine (live_any O b N S W ha).mono ?_
  rintro e W' ⟨v, rfl, q, c, rfl, h1, h2⟩
  exact ⟨q, c, rfl, h1, h2⟩
theorem live_r2 (h : RoundAt w b b2 N S T Bo Bw ko no xo u v W) :
    Calls Try.prog 16 #[.pointer (some ⟨b2, 0, none⟩)] W fun e W' => ∃ q c, e = .returned (.slice q (liveL T).length c) ∧ ReadsL encZ W'.heap.size W' q (liveL T) ∧ Below W.heap.size W W' := by
  obtain ⟨O, O2, ha, hr, hd, hn⟩ := h.2.2.1
  refine (liveRef_any O2 b2 N T W hr).mono ?_
  rintro e W' ⟨v, rfl, q, c, rfl, h1, h2⟩
  exact ⟨q, c, rfl, h1, h2⟩
end
theorem round_room {w W : World} {b b2 N : Nat} {S T : St} {Bo Bw : Nat} {ko no xo u : Int} {v : Bool} (h : RoundAt w b b2 N S T Bo Bw ko no xo u v W) : W.cell? ⟨b2, 0, none⟩ = some (.int .i64 (N : Int)) ∧ b2 < W.heap.size := by
  obtain ⟨O, O2, ha, ⟨-, -, vx, vi, q, c, h4, -⟩, -⟩ := h.2.2.1
  exact ⟨h4.cells.1.1, h4.lt⟩
/-- What the round's last statement holds: the state, and the document's list. -/
def EndAt (w : World) (b b2 N : Nat) (S T : St) (Bo Bw : Nat) (ko no xo u : Int) (v : Bool) (q : Option Addr) (LL : List Int) (W : World) : Prop := RoundAt w b b2 N S T Bo Bw ko no xo u v W ∧ ReadsL encZ W.heap.size W q LL
section
variable {w W W' : World} {b b2 N Bo Bw : Nat} {S T : St} {ko no xo u : Int} {v : Bool} {q : Option Addr} {LL : List Int}
theorem EndAt.keep (h : EndAt w b b2 N S T Bo Bw ko no xo u v q LL W) (hb : Below W.heap.size W W') : EndAt w b b2 N S T Bo Bw ko no xo u v q LL W' := ⟨h.1.keep hb, ReadsL.over h.2 hb (Nat.le_refl _)⟩
theorem EndAt.all (h : EndAt w b b2 N S T Bo Bw ko no xo u v q LL W) : (W.cell? ⟨Bw, 0, none⟩ = some (.int .i64 u) ∧ W.cell? ⟨Bw, 1, none⟩ = some (.bool v) ∧ W.cell? ⟨b2, 0, none⟩ = some (.int .i64 (N : Int))) ∧ Hid (EndAt w b b2 N S T Bo Bw ko no xo u v q LL W) :=
  ⟨⟨h.1.cells.2.1.1, h.1.cells.2.1.2, (round_room h.1).1⟩, Lib.hid h⟩
end
set_option maxRecDepth 100000 in
set_option maxHeartbeats 8000000 in
theorem walk_list (n : Int) (a : Option Addr) (cap : Nat) (l : List (Int × Int × Int)) (w : World) (hl : ReadsOp w.heap.size w a l) (hm : l.length ≤ maxLen) :
    Calls Try.prog 3 #[.int .i64 n, .slice a l.length cap] w fun e w' => e = .returned (.bool true) ∧ Below w.heap.size w w' := by
  have HL := Lib.hid hl
  have hm : l.length ≤ 9223372036854775807 := by unfold maxLen at hm; omega
  clear hl
  by_cases h200 : 200 < l.length
  · go_enter Try.func3, Try.ntmps3
    go_wp2_with (first | (go_at_call 5; refine (awake_any _).mono ?_; rintro e w1 ⟨rfl, hb1⟩; have HB := Lib.hid hb1; clear hb1))
    go_ret
    exact ⟨rfl, HB.out⟩
  have hlen : l.length ≤ 200 := by omega
  clear h200 hm
  go_enter Try.func3, Try.ntmps3
  go_wp2_with fail
  refine (new_any n w).mono ?_
  rintro e w1 ⟨rfl, hb1, hs1, ha1⟩
  have HC1 := Lib.hid (And.intro hb1 (And.intro hs1 ha1))
  clear hb1 hs1 ha1
  go_wp2_with fail
  refine (newRef_any n w1).mono ?_
  rintro e w2 ⟨rfl, hb2, -, hr2⟩
  have HP := Lib.hid (play_start HC1.out.1 HC1.out.2.1 HC1.out.2.2 hb2 hr2)
  clear hb2 hr2 HC1
  generalize roomN n = N at *
  generalize emptyS = S0 at *
  go_upto_region 4 with fail
  generalize hB : w.heap.size = b at *
  have HBw := Lib.hid hB
  clear hB
  generalize w1.heap.size = b2 at *
  go_wp2_with fail
  go_loopw [7] (fun i wr => ∃ (k : Nat) (S : St), i = .int .i64 k ∧ k ≤ l.length ∧ Hid (PlayAt w b b2 N S S wr)) (fun i _ => l.length - (intOf i).toNat)
  case atStart => exact ⟨0, _, rfl, Nat.zero_le _, HP⟩
  case round =>
    obtain ⟨k, S, rfl, hk, HK⟩ := hrel
    clear HP
    have i0 : (0 : Int) ≤ (k : Int) := by omega
    by_cases hlt : k < l.length
    · have i1 : (k : Int) < (l.length : Int) := by omega
      obtain ⟨bl, off, rfl, hbN, d0, d1, d2⟩ := (show ReadsOp w.heap.size w a l by rw [HBw.out]; exact HL.out).at HK.out.1 hlt
      generalize l[k].1 = ko at *
      generalize l[k].2.1 = no at *
      generalize l[k].2.2 = xo at *
      go_upto_region 12 with fail
      have HR := Lib.hid (HK.out.round ko no xo 29 31)
      clear d0 d1 d2 HK hbN
      generalize (wr.alloc (.cells #[.int .i64 ko, .int .i64 no, .int .i64 xo] 29)).alloc (.cells #[.int .i64 0, .bool false] 31) = W0 at *
      generalize wr.heap.size + 1 = Bw at *
      generalize wr.heap.size = Bo at *
      obtain ⟨⟨x0, x1, x2⟩, ⟨y0, y1⟩, ⟨f0, f1⟩, hBo, hBw⟩ := HR.out.cells
      by_cases k0 : ko = 0
      · subst k0
        go_wp2_with fail
        refine (give_r w b b2 N S S Bo Bw 0 no xo 0 false _ xo HR.out).mono ?_
        rintro e W1 ⟨rfl, h1⟩
        have HR1 := Lib.hid h1
        clear h1 HR x0 x1 x2 y0 y1 f0 f1 hBo hBw
        obtain ⟨⟨x0, x1, x2⟩, -, -, hBo, -⟩ := HR1.out.cells
        go_wp2_with fail
        refine (give_r2 w b b2 N (giveS N S xo) S Bo Bw 0 no xo 0 false _ xo HR1.out).mono ?_
        rintro e W2 ⟨rfl, h2⟩
        have HE := Lib.hid (h2.want (giveN N S) (giveB N S))
        obtain ⟨-, ⟨y0, y1⟩, ⟨f0, f1⟩, -, hBw⟩ := h2.cells
        clear h2 HR1 x0 x1 x2 hBo
        go_upto_region 24 with fail
        clear y0 y1 f0 f1 hBw
        generalize (W2.setCell ⟨Bw, 0, none⟩ (.int .i64 (giveN N S))).setCell ⟨Bw, 1, none⟩ (.bool (giveB N S)) = W3 at *
        generalize giveS N S xo = S2 at *
        generalize giveN N S = U at *
        generalize giveB N S = V at *
        have HLn : Hid (liveN S2 = (liveL S2).length) := Lib.hid (live_len S2).symm
        have hLb : (liveL S2).length ≤ 1048576 := by
          rw [live_len S2]
          obtain ⟨O, O2, ha, -⟩ := HE.out.2.2.1
          have := live_le ha.2.1
          have := ha.1
          omega
        generalize hLL : liveL S2 = LL at *
        go_wp2_with fail
        refine (live_r2 w b b2 N S2 S2 Bo Bw 0 no xo U V _ HE.out).mono ?_
        rintro e W2 ⟨q, c, rfl, hq, hb⟩
        rw [hLL] at hq ⊢
        have HT : Hid (EndAt w b b2 N S2 S2 Bo Bw 0 no xo U V q LL W2) := Lib.hid ⟨HE.out.keep hb, hq⟩
        clear hq hb HE
        go_upto_region 25 with fail
        obtain ⟨⟨y0, y1, z0⟩, -⟩ := HT.out.all
        have hBw := HT.out.1.cells.2.2.2.2
        have hb2 := (round_room HT.out.1).2
        have t0 : (N != N) = false := bne_self_eq_false _
        have t1 : (LL.length != LL.length) = false := bne_self_eq_false _
        go_region_held3 (fun W => (W.cell? ⟨Bw, 0, none⟩ = some (.int .i64 U) ∧ W.cell? ⟨Bw, 1, none⟩ = some (.bool V) ∧ W.cell? ⟨b2, 0, none⟩ = some (.int .i64 (N : Int))) ∧ Hid (EndAt w b b2 N S2 S2 Bo Bw 0 no xo U V q LL W))
          (first
            | exact (HT.out.keep ((Below.refl _ _).drew)).all
            | (go_split_ands; exact ((by assumption : Hid (EndAt w b b2 N S2 S2 Bo Bw 0 no xo U V q LL _)).out.keep hb1).all)
            | (go_split_ands; exact (by assumption : Hid (EndAt w b b2 N S2 S2 Bo Bw 0 no xo U V q LL _)).out.all)
            | go_keep)
          (first
            | (go_at_call 17; go_split_ands; refine (len_r w b b2 N S2 S2 Bo Bw 0 no xo U V _ (by assumption : Hid (EndAt w b b2 N S2 S2 Bo Bw 0 no xo U V q LL _)).out.1).mono ?_; rintro e v1 ⟨rfl, rfl⟩; rw [HLn.out])
            | (go_at_call 18; go_split_ands; refine (room_r w b b2 N S2 S2 Bo Bw 0 no xo U V _ (by assumption : Hid (EndAt w b b2 N S2 S2 Bo Bw 0 no xo U V q LL _)).out.1).mono ?_; rintro e v1 ⟨rfl, rfl⟩)
            | (go_at_call 20; go_split_ands; refine (live_r w b b2 N S2 S2 Bo Bw 0 no xo U V _ (by assumption : Hid (EndAt w b b2 N S2 S2 Bo Bw 0 no xo U V q LL _)).out.1).mono ?_; rintro e v1 ⟨q1, c1, rfl, hr1, hb1⟩; rw [hLL] at hr1 ⊢; have HR1 := Lib.hid hr1; have HZ1 : Hid (EndAt w b b2 N S2 S2 Bo Bw 0 no xo U V q LL v1) := Lib.hid ((by assumption : Hid (EndAt w b b2 N S2 S2 Bo Bw 0 no xo U V q LL _)).out.keep hb1); clear hr1)
            | (go_at_call 19; refine (ints_any q1 q c1 c LL LL v1 HR1.out HZ1.out.2 (by omega)).mono ?_; rintro e v2 ⟨rfl, m1, rfl⟩; have hb1 := below_drewN (Below.refl v1.heap.size v1) m1; rw [decide_eq_true (rfl : LL = LL)]))
        all_goals go_wp2
        all_goals go_roundw
        all_goals first
          | exact ⟨k + 1, S2, by go_num, by omega, Lib.hid (by assumption : _ ∧ Hid (EndAt w b b2 N S2 S2 Bo Bw 0 no xo U V q LL _)).2.out.1.end⟩
          | (simp [intOf] <;> omega)
      have e0 : (ko == 0) = false := by simpa using k0
      by_cases k1 : ko = 1
      · subst k1
        go_wp2_with fail
        refine (free_r w b b2 N S S Bo Bw 1 no xo 0 false _ no HR.out).mono ?_
        rintro e W1 ⟨rfl, h1⟩
        have HR1 := Lib.hid h1
        clear h1 HR x0 x1 x2 y0 y1 f0 f1 hBo hBw
        obtain ⟨⟨x0, x1, x2⟩, -, -, hBo, -⟩ := HR1.out.cells
        go_wp2_with fail
        refine (free_r2 w b b2 N (freeS S no) S Bo Bw 1 no xo 0 false _ no HR1.out).mono ?_
        rintro e W2 ⟨rfl, h2⟩
        have HE := Lib.hid (h2.want (atV S no) (hasB S no))
        obtain ⟨-, ⟨y0, y1⟩, ⟨f0, f1⟩, -, hBw⟩ := h2.cells
        clear h2 HR1 x0 x1 x2 hBo
        go_upto_region 24 with fail
        clear y0 y1 f0 f1 hBw
        generalize (W2.setCell ⟨Bw, 0, none⟩ (.int .i64 (atV S no))).setCell ⟨Bw, 1, none⟩ (.bool (hasB S no)) = W3 at *
        generalize freeS S no = S2 at *
        generalize atV S no = U at *
        generalize hasB S no = V at *
        have HLn : Hid (liveN S2 = (liveL S2).length) := Lib.hid (live_len S2).symm
        have hLb : (liveL S2).length ≤ 1048576 := by
          rw [live_len S2]
          obtain ⟨O, O2, ha, -⟩ := HE.out.2.2.1
          have := live_le ha.2.1
          have := ha.1
          omega
        generalize hLL : liveL S2 = LL at *
        go_wp2_with fail
        refine (live_r2 w b b2 N S2 S2 Bo Bw 1 no xo U V _ HE.out).mono ?_
        rintro e W2 ⟨q, c, rfl, hq, hb⟩
        rw [hLL] at hq ⊢
        have HT : Hid (EndAt w b b2 N S2 S2 Bo Bw 1 no xo U V q LL W2) := Lib.hid ⟨HE.out.keep hb, hq⟩
        clear hq hb HE
        go_upto_region 25 with fail
        obtain ⟨⟨y0, y1, z0⟩, -⟩ := HT.out.all
        have hBw := HT.out.1.cells.2.2.2.2
        have hb2 := (round_room HT.out.1).2
        have t0 : (N != N) = false := bne_self_eq_false _
        have t1 : (LL.length != LL.length) = false := bne_self_eq_false _
        go_region_held3 (fun W => (W.cell? ⟨Bw, 0, none⟩ = some (.int .i64 U) ∧ W.cell? ⟨Bw, 1, none⟩ = some (.bool V) ∧ W.cell? ⟨b2, 0, none⟩ = some (.int .i64 (N : Int))) ∧ Hid (EndAt w b b2 N S2 S2 Bo Bw 1 no xo U V q LL W))
          (first
            | exact (HT.out.keep ((Below.refl _ _).drew)).all
            | (go_split_ands; exact ((by assumption : Hid (EndAt w b b2 N S2 S2 Bo Bw 1 no xo U V q LL _)).out.keep hb1).all)
            | (go_split_ands; exact (by assumption : Hid (EndAt w b b2 N S2 S2 Bo Bw 1 no xo U V q LL _)).out.all)
            | go_keep)
          (first
            | (go_at_call 17; go_split_ands; refine (len_r w b b2 N S2 S2 Bo Bw 1 no xo U V _ (by assumption : Hid (EndAt w b b2 N S2 S2 Bo Bw 1 no xo U V q LL _)).out.1).mono ?_; rintro e v1 ⟨rfl, rfl⟩; rw [HLn.out])
            | (go_at_call 18; go_split_ands; refine (room_r w b b2 N S2 S2 Bo Bw 1 no xo U V _ (by assumption : Hid (EndAt w b b2 N S2 S2 Bo Bw 1 no xo U V q LL _)).out.1).mono ?_; rintro e v1 ⟨rfl, rfl⟩)
            | (go_at_call 20; go_split_ands; refine (live_r w b b2 N S2 S2 Bo Bw 1 no xo U V _ (by assumption : Hid (EndAt w b b2 N S2 S2 Bo Bw 1 no xo U V q LL _)).out.1).mono ?_; rintro e v1 ⟨q1, c1, rfl, hr1, hb1⟩; rw [hLL] at hr1 ⊢; have HR1 := Lib.hid hr1; have HZ1 : Hid (EndAt w b b2 N S2 S2 Bo Bw 1 no xo U V q LL v1) := Lib.hid ((by assumption : Hid (EndAt w b b2 N S2 S2 Bo Bw 1 no xo U V q LL _)).out.keep hb1); clear hr1)
            | (go_at_call 19; refine (ints_any q1 q c1 c LL LL v1 HR1.out HZ1.out.2 (by omega)).mono ?_; rintro e v2 ⟨rfl, m1, rfl⟩; have hb1 := below_drewN (Below.refl v1.heap.size v1) m1; rw [decide_eq_true (rfl : LL = LL)]))
        all_goals go_wp2
        all_goals go_roundw
        all_goals first
          | exact ⟨k + 1, S2, by go_num, by omega, Lib.hid (by assumption : _ ∧ Hid (EndAt w b b2 N S2 S2 Bo Bw 1 no xo U V q LL _)).2.out.1.end⟩
          | (simp [intOf] <;> omega)
      have e1 : (ko == 1) = false := by simpa using k1
      by_cases k2 : ko = 2
      · subst k2
        go_wp2_with fail
        refine (set_r w b b2 N S S Bo Bw 2 no xo 0 false _ no xo HR.out).mono ?_
        rintro e W1 ⟨rfl, h1⟩
        have HR1 := Lib.hid h1
        clear h1 HR x0 x1 x2 y0 y1 f0 f1 hBo hBw
        obtain ⟨⟨x0, x1, x2⟩, -, -, hBo, -⟩ := HR1.out.cells
        go_wp2_with fail
        refine (set_r2 w b b2 N (setS S no xo) S Bo Bw 2 no xo 0 false _ no xo HR1.out).mono ?_
        rintro e W2 ⟨rfl, h2⟩
        have HE := Lib.hid (h2.wantOk (hasB S no))
        obtain ⟨-, ⟨y0, y1⟩, ⟨f0, f1⟩, -, hBw⟩ := h2.cells
        clear h2 HR1 x0 x1 x2 hBo
        go_upto_region 24 with fail
        clear y0 y1 f0 f1 hBw
        generalize W2.setCell ⟨Bw, 1, none⟩ (.bool (hasB S no)) = W3 at *
        generalize setS S no xo = S2 at *
        generalize hasB S no = V at *
        have HLn : Hid (liveN S2 = (liveL S2).length) := Lib.hid (live_len S2).symm
        have hLb : (liveL S2).length ≤ 1048576 := by
          rw [live_len S2]
          obtain ⟨O, O2, ha, -⟩ := HE.out.2.2.1
          have := live_le ha.2.1
          have := ha.1
          omega
        generalize hLL : liveL S2 = LL at *
        go_wp2_with fail
        refine (live_r2 w b b2 N S2 S2 Bo Bw 2 no xo 0 V _ HE.out).mono ?_
        rintro e W2 ⟨q, c, rfl, hq, hb⟩
        rw [hLL] at hq ⊢
        have HT : Hid (EndAt w b b2 N S2 S2 Bo Bw 2 no xo 0 V q LL W2) := Lib.hid ⟨HE.out.keep hb, hq⟩
        clear hq hb HE
        go_upto_region 25 with fail
        obtain ⟨⟨y0, y1, z0⟩, -⟩ := HT.out.all
        have hBw := HT.out.1.cells.2.2.2.2
        have hb2 := (round_room HT.out.1).2
        have t0 : (N != N) = false := bne_self_eq_false _
        have t1 : (LL.length != LL.length) = false := bne_self_eq_false _
        go_region_held3 (fun W => (W.cell? ⟨Bw, 0, none⟩ = some (.int .i64 0) ∧ W.cell? ⟨Bw, 1, none⟩ = some (.bool V) ∧ W.cell? ⟨b2, 0, none⟩ = some (.int .i64 (N : Int))) ∧ Hid (EndAt w b b2 N S2 S2 Bo Bw 2 no xo 0 V q LL W))
          (first
            | exact (HT.out.keep ((Below.refl _ _).drew)).all
            | (go_split_ands; exact ((by assumption : Hid (EndAt w b b2 N S2 S2 Bo Bw 2 no xo 0 V q LL _)).out.keep hb1).all)
            | (go_split_ands; exact (by assumption : Hid (EndAt w b b2 N S2 S2 Bo Bw 2 no xo 0 V q LL _)).out.all)
            | go_keep)
          (first
            | (go_at_call 17; go_split_ands; refine (len_r w b b2 N S2 S2 Bo Bw 2 no xo 0 V _ (by assumption : Hid (EndAt w b b2 N S2 S2 Bo Bw 2 no xo 0 V q LL _)).out.1).mono ?_; rintro e v1 ⟨rfl, rfl⟩; rw [HLn.out])
            | (go_at_call 18; go_split_ands; refine (room_r w b b2 N S2 S2 Bo Bw 2 no xo 0 V _ (by assumption : Hid (EndAt w b b2 N S2 S2 Bo Bw 2 no xo 0 V q LL _)).out.1).mono ?_; rintro e v1 ⟨rfl, rfl⟩)
            | (go_at_call 20; go_split_ands; refine (live_r w b b2 N S2 S2 Bo Bw 2 no xo 0 V _ (by assumption : Hid (EndAt w b b2 N S2 S2 Bo Bw 2 no xo 0 V q LL _)).out.1).mono ?_; rintro e v1 ⟨q1, c1, rfl, hr1, hb1⟩; rw [hLL] at hr1 ⊢; have HR1 := Lib.hid hr1; have HZ1 : Hid (EndAt w b b2 N S2 S2 Bo Bw 2 no xo 0 V q LL v1) := Lib.hid ((by assumption : Hid (EndAt w b b2 N S2 S2 Bo Bw 2 no xo 0 V q LL _)).out.keep hb1); clear hr1)
            | (go_at_call 19; refine (ints_any q1 q c1 c LL LL v1 HR1.out HZ1.out.2 (by omega)).mono ?_; rintro e v2 ⟨rfl, m1, rfl⟩; have hb1 := below_drewN (Below.refl v1.heap.size v1) m1; rw [decide_eq_true (rfl : LL = LL)]))
        all_goals go_wp2
        all_goals go_roundw
        all_goals first
          | exact ⟨k + 1, S2, by go_num, by omega, Lib.hid (by assumption : _ ∧ Hid (EndAt w b b2 N S2 S2 Bo Bw 2 no xo 0 V q LL _)).2.out.1.end⟩
          | (simp [intOf] <;> omega)
      · have e2 : (ko == 2) = false := by simpa using k2
        go_wp2_with fail
        refine (at_r w b b2 N S S Bo Bw ko no xo 0 false _ no HR.out).mono ?_
        rintro e W1 ⟨rfl, h1⟩
        have HR1 := Lib.hid h1
        clear h1 HR x0 x1 x2 y0 y1 f0 f1 hBo hBw
        obtain ⟨⟨x0, x1, x2⟩, -, -, hBo, -⟩ := HR1.out.cells
        go_wp2_with fail
        refine (at_r2 w b b2 N S S Bo Bw ko no xo 0 false _ no HR1.out).mono ?_
        rintro e W2 ⟨rfl, h2⟩
        have HE := Lib.hid (h2.want (atV S no) (hasB S no))
        obtain ⟨-, ⟨y0, y1⟩, ⟨f0, f1⟩, -, hBw⟩ := h2.cells
        clear h2 HR1 x0 x1 x2 hBo
        go_upto_region 24 with fail
        clear y0 y1 f0 f1 hBw
        generalize (W2.setCell ⟨Bw, 0, none⟩ (.int .i64 (atV S no))).setCell ⟨Bw, 1, none⟩ (.bool (hasB S no)) = W3 at *
        generalize atV S no = U at *
        generalize hasB S no = V at *
        obtain ⟨S2, hS2⟩ : ∃ S2, S2 = S := ⟨_, rfl⟩
        subst hS2
        have HLn : Hid (liveN S2 = (liveL S2).length) := Lib.hid (live_len S2).symm
        have hLb : (liveL S2).length ≤ 1048576 := by
          rw [live_len S2]
          obtain ⟨O, O2, ha, -⟩ := HE.out.2.2.1
          have := live_le ha.2.1
          have := ha.1
          omega
        generalize hLL : liveL S2 = LL at *
        go_wp2_with fail
        refine (live_r2 w b b2 N S2 S2 Bo Bw ko no xo U V _ HE.out).mono ?_
        rintro e W2 ⟨q, c, rfl, hq, hb⟩
        rw [hLL] at hq ⊢
        have HT : Hid (EndAt w b b2 N S2 S2 Bo Bw ko no xo U V q LL W2) := Lib.hid ⟨HE.out.keep hb, hq⟩
        clear hq hb HE
        go_upto_region 25 with fail
        obtain ⟨⟨y0, y1, z0⟩, -⟩ := HT.out.all
        have hBw := HT.out.1.cells.2.2.2.2
        have hb2 := (round_room HT.out.1).2
        have t0 : (N != N) = false := bne_self_eq_false _
        have t1 : (LL.length != LL.length) = false := bne_self_eq_false _
        go_region_held3 (fun W => (W.cell? ⟨Bw, 0, none⟩ = some (.int .i64 U) ∧ W.cell? ⟨Bw, 1, none⟩ = some (.bool V) ∧ W.cell? ⟨b2, 0, none⟩ = some (.int .i64 (N : Int))) ∧ Hid (EndAt w b b2 N S2 S2 Bo Bw ko no xo U V q LL W))
          (first
            | exact (HT.out.keep ((Below.refl _ _).drew)).all
            | (go_split_ands; exact ((by assumption : Hid (EndAt w b b2 N S2 S2 Bo Bw ko no xo U V q LL _)).out.keep hb1).all)
            | (go_split_ands; exact (by assumption : Hid (EndAt w b b2 N S2 S2 Bo Bw ko no xo U V q LL _)).out.all)
            | go_keep)
          (first
            | (go_at_call 17; go_split_ands; refine (len_r w b b2 N S2 S2 Bo Bw ko no xo U V _ (by assumption : Hid (EndAt w b b2 N S2 S2 Bo Bw ko no xo U V q LL _)).out.1).mono ?_; rintro e v1 ⟨rfl, rfl⟩; rw [HLn.out])
            | (go_at_call 18; go_split_ands; refine (room_r w b b2 N S2 S2 Bo Bw ko no xo U V _ (by assumption : Hid (EndAt w b b2 N S2 S2 Bo Bw ko no xo U V q LL _)).out.1).mono ?_; rintro e v1 ⟨rfl, rfl⟩)
            | (go_at_call 20; go_split_ands; refine (live_r w b b2 N S2 S2 Bo Bw ko no xo U V _ (by assumption : Hid (EndAt w b b2 N S2 S2 Bo Bw ko no xo U V q LL _)).out.1).mono ?_; rintro e v1 ⟨q1, c1, rfl, hr1, hb1⟩; rw [hLL] at hr1 ⊢; have HR1 := Lib.hid hr1; have HZ1 : Hid (EndAt w b b2 N S2 S2 Bo Bw ko no xo U V q LL v1) := Lib.hid ((by assumption : Hid (EndAt w b b2 N S2 S2 Bo Bw ko no xo U V q LL _)).out.keep hb1); clear hr1)
            | (go_at_call 19; refine (ints_any q1 q c1 c LL LL v1 HR1.out HZ1.out.2 (by omega)).mono ?_; rintro e v2 ⟨rfl, m1, rfl⟩; have hb1 := below_drewN (Below.refl v1.heap.size v1) m1; rw [decide_eq_true (rfl : LL = LL)]))
        all_goals go_wp2
        all_goals go_roundw
        all_goals first
          | exact ⟨k + 1, S2, by go_num, by omega, Lib.hid (by assumption : _ ∧ Hid (EndAt w b b2 N S2 S2 Bo Bw ko no xo U V q LL _)).2.out.1.end⟩
          | (simp [intOf] <;> omega)
    · have hge : ¬ (k : Int) < (l.length : Int) := by omega
      clear HL
      go_wp2_with (first | (go_at_call 5; refine (awake_any _).mono ?_; rintro e w3 ⟨rfl, hb3⟩; have HB3 := Lib.hid (HK.out.1.trans (hb3.mono HK.out.1.size)); clear hb3))
      go_ret
      exact ⟨rfl, HB3.out⟩
theorem own : ownKnob Try.prog.godebug = none := by kernel_rfl
theorem laidOut : laidOutB Try.prog = true := by kernel_rfl
set_option maxRecDepth 100000 in
theorem lifted (os : Os) (started : os.Started) (H : Type) (enc : TypeId × Value → H) :
    ReturnsInHanded {} Try.checked os 3 .any (Rows.arenaPlaysSpec.pre6 enc Try.prog Try.f3 Rows.arenaPlaysRow.domain false) (Rows.arenaPlaysSpec.post enc Try.prog Try.f3 false true false false) := by
  refine returnsInHanded_of_change (C := Try.checked) own started (by kernel_rfl) Try.func3
    (ChangeSpec.witness6 (enc := enc) (C := Try.checked) false ⟨#[], #[.int .i64 0, .slice none 0 0], []⟩ 8 (by kernel_rfl) (by kernel_rfl) (by kernel_rfl) (by kernel_rfl)) ?_
  intro W base args ds gs before hval0 hW hcnd _
  have hval : ∀ (j : Nat) t v, Try.f3.params[j]? = some t → args[j]? = some v → Value.okWide Try.prog W .any base t v := hval0
  have hW' := hW
  obtain ⟨p, q, hA0, hV, rfl, hfz, hnd⟩ := hW
  have hA : DataW.TrodAll enc Try.prog W 0 (fun _ => true) true Try.f3.params.toList args.toList ds p := hA0
  rw [Try.params3] at hA hval
  obtain ⟨v0, vs0, d0, ds0, p0, q0, hargs, rfl, rfl, h0, r0⟩ := trodAll_cons hA
  obtain ⟨v1, vs1, d1, ds1, p1, q1, rfl, rfl, rfl, h1, r1⟩ := trodAll_cons r0
  obtain ⟨rfl, rfl, rfl⟩ := trodAll_nil r1
  obtain rfl : args = #[v0, v1] := by cases args; simp_all
  obtain ⟨rfl, rfl⟩ := trodVars_none hV
  obtain ⟨a0, rfl, rfl, rfl, w0⟩ := open_int Try.underlying3 (hval 0 3 v0 rfl rfl) h0
  obtain ⟨a1, len1, cap1, rfl⟩ := okWide_slice Try.underlying22 (hval 1 22 v1 rfl rfl)
  have k1 := h1
  have lt1 : ∀ x ∈ p1, x.block < W.heap.size := by obtain ⟨m, hm⟩ := k1; exact DataW.trod_lt m _ _ _ hm
  obtain ⟨l1, hlen1, w1⟩ : ∃ l : List (Int × Int × Int), l.length = len1 ∧ ReadsOp W.heap.size W a1 l ∧ l.length ≤ maxLen := by
    obtain ⟨fuel, hf⟩ := h1
    exact open_ops hf
  subst hlen1
  clear hA0 hval0
  refine (walk_list a0 a1 cap1 l1 W w1.1 w1.2).mono fun e W' ⟨he, bel⟩ => ?_
  subst he
  exact ⟨_, rfl, _, _, _, [], _, [], hW', trodAll_mk1 (shut_bool Try.underlying4 _), (trodAll_cons_mk (shut_int Try.underlying3 w0) (trodAll_cons_mk (Below.trod laidOut (by kernel_rfl) (of_decide_eq_true (by kernel_rfl)) k1 bel lt1) trodAll_mk0)), rfl, bel.frame _, fun h => by cases h⟩
theorem over : Rows.arenaPlaysRow.holds Try.pinned (OpenSpec.ofChange Rows.arenaPlaysSpec) :=
  OpenClaim.holds_of_wide 3 Try.f3 rfl rfl rfl rfl rfl rfl rfl ⟨rfl, rfl, rfl, rfl, rfl⟩ rfl rfl rfl rfl rfl (by kernel_rfl) Try.func3 (by kernel_rfl)
    (of_decide_eq_true (by kernel_rfl)) (by unfold Func.isWrapper; first | (rw [if_pos (by decide +kernel)]; kernel_rfl) | (rw [if_neg (by decide +kernel)]; exact ⟨rfl, rfl⟩))
    (fun os started H enc _ => lifted os started H enc)
/-- The statement. -/
theorem proved : Rows.ArenaPlaysSaid := over
#print axioms proved
end Go.Proofs.Ytjemahnhdgkpcaa.arenaPlays
