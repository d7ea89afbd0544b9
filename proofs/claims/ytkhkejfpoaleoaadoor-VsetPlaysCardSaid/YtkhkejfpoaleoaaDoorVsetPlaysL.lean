/- Any calls of Put, Drop and Has on a set of any room answer as the document's set does; so do the other set and the twin, which stay as they are when the set is turned. Conditions: none: every room, every slice of calls (of more than two hundred the law asks only that the program has sets at all); the library's table of de Bruijn holds what the program's text lays into it, and the card ties that to the text. -/
import Derived.Test.YtkhkejfpoaleoaaDoorVsetPlay
import Derived.Test.YtkhkejfpoaleoaaDoorTie
import Derived.Test.YtkhkejfpoaleoaaDoorCards
import Derived.SevenTiedAt
import Derived.Deep.RegionHeld3
import Derived.Carry
import Derived.Deep.Cut
import Derived.Deep.CutRange
namespace Go.Proofs.YtkhkejfpoaleoaaDoor.vsetPlays
open Go.ChangeShapes Go.WideShapes Go.ChangeAt Go.RowKit VsetPure
theorem play_start {w w1 w2 : World} {h m : Nat} (T : TypeId) (hb1 : Below w.heap.size w w1) (hs : SetAt (w.heap.size + 1) w.heap.size w1 m noneP) (hb2 : Below w1.heap.size w1 w2) (hh : w1.heap.size ≤ h) (hlt : h < w2.heap.size) (hr : RowIs h w2 ((inL m noneP).map encB)) :
    PlayAt w (w.heap.size + 1) w.heap.size w2.heap.size m (some ⟨h, 0, none⟩) m noneP noneP (w2.alloc (.cells #[.int .i64 (m : Int), .slice (some ⟨h, 0, none⟩) m m] T)) := by
  have hA := (Below.refl _ w2).alloc (Nat.le_refl _) (.cells #[.int .i64 (m : Int), .slice (some ⟨h, 0, none⟩) m m] T)
  have ht := TwoAt.new w2 (.int .i64 (m : Int)) (.slice (some ⟨h, 0, none⟩) m m) T
  have s0 := hs.lt
  have s1 := hb1.size
  have s2 := hb2.size
  have b2 : Below w.heap.size w w2 := hb1.trans (hb2.mono s1)
  have b3 := b2.trans (hA.mono (Nat.le_trans s1 s2))
  have o1 : Off (some ⟨h, 0, none⟩) w2.heap.size := fun z e => by cases e; exact fun e => by simp only at e; omega
  have o2 : Off (some ⟨h, 0, none⟩) w.heap.size := fun z e => by cases e; exact fun e => by simp only at e; omega
  exact ⟨b3, (hs.keep hb2).keep hA, ht, (row_ref hr).keep hA, o1, o2, by omega, by omega, Nat.le_refl _, by omega⟩
theorem drawn_below {w w' : World} (h : ∃ k, w' = w.drewN k) : Below w.heap.size w w' := by obtain ⟨k, rfl⟩ := h; exact below_drewN (Below.refl _ _) k
theorem play_cells {w W : World} {bs gs X m c : Nat} {q : Option Addr} {ps px : Nat → Bool} (h : Hid (PlayAt w bs gs X m q c ps px W)) :
    W.cell? ⟨X, 0, none⟩ = some (.int .i64 (m : Int)) ∧ W.cell? ⟨X, 1, none⟩ = some (.slice q m c) ∧ W.frozen? ⟨X, 0, none⟩ = false ∧ W.frozen? ⟨X, 1, none⟩ = false := h.out.2.2.1
theorem play_keep {w W W' : World} {bs gs X m c : Nat} {q : Option Addr} {ps px : Nat → Bool} (h : Hid (PlayAt w bs gs X m q c ps px W)) (hb : Below W.heap.size W W') :
    W'.cell? ⟨X, 0, none⟩ = some (.int .i64 (m : Int)) ∧ W'.cell? ⟨X, 1, none⟩ = some (.slice q m c) ∧ Hid (PlayAt w bs gs X m q c ps px W') :=
  ⟨(h.out.keep hb).2.2.1.1, (h.out.keep hb).2.2.1.2.1, Lib.hid (h.out.keep hb)⟩
theorem play_set {w W : World} {bs gs X m c : Nat} {q : Option Addr} {ps px : Nat → Bool} (h : Hid (PlayAt w bs gs X m q c ps px W)) : SetAt bs gs W m ps := h.out.2.1
theorem play_ref {w W : World} {bs gs X m c : Nat} {q : Option Addr} {ps px : Nat → Bool} (h : Hid (PlayAt w bs gs X m q c ps px W)) : RefAt W q m px := h.out.2.2.2.1
theorem play_pair {w W : World} {bs gs X m c : Nat} {q : Option Addr} {ps : Nat → Bool} (h : Hid (PlayAt w bs gs X m q c ps ps W)) (hT : Hid (TabAt 0 Lib.deBruijn64tab w)) : Pair bs gs m ps q W :=
  ⟨h.out.2.1, h.out.2.2.2.1, tab_keep hT.out h.out.1⟩
/-- Behind the calls: the twin and the other set stand beside. -/
def EndAt (w : World) (bs gs X m : Nat) (q : Option Addr) (c : Nat) (ps p : Nat → Bool) (ts os : Nat) (W : World) : Prop :=
  PlayAt w bs gs X m q c ps p W ∧ SetAt (ts + 1) ts W m p ∧ SetAt (os + 1) os W m (otherP m p) ∧ gs < ts ∧ gs < os
theorem EndAt.keep {w W W' : World} {bs gs X m c ts os : Nat} {q : Option Addr} {ps p : Nat → Bool} (h : EndAt w bs gs X m q c ps p ts os W) (hb : Below W.heap.size W W') : EndAt w bs gs X m q c ps p ts os W' :=
  ⟨h.1.keep hb, h.2.1.keep hb, h.2.2.1.keep hb, h.2.2.2⟩
theorem EndAt.turn {w W W' : World} {bs gs X m c ts os : Nat} {q : Option Addr} {ps ps' p : Nat → Bool} (h : EndAt w bs gs X m q c ps p ts os W) (hg : W.grownBy W' (some gs)) (hs : SetAt bs gs W' m ps') : EndAt w bs gs X m q c ps' p ts os W' := by
  obtain ⟨h1, h2, h3, h4, h5⟩ := h
  exact ⟨h1.turn hg hs, h2.past hg (fun e => by have := Option.some.inj e; omega) (fun e => by have := Option.some.inj e; omega), h3.past hg (fun e => by have := Option.some.inj e; omega) (fun e => by have := Option.some.inj e; omega), h4, h5⟩
theorem end_cells {w W : World} {bs gs X m c ts os : Nat} {q : Option Addr} {ps p : Nat → Bool} (h : Hid (EndAt w bs gs X m q c ps p ts os W)) :
    W.cell? ⟨X, 0, none⟩ = some (.int .i64 (m : Int)) ∧ W.cell? ⟨X, 1, none⟩ = some (.slice q m c) := ⟨h.out.1.2.2.1.1, h.out.1.2.2.1.2.1⟩
theorem end_t {w W : World} {bs gs X m c ts os : Nat} {q : Option Addr} {ps p : Nat → Bool} (h : Hid (EndAt w bs gs X m q c ps p ts os W)) (hT : Hid (TabAt 0 Lib.deBruijn64tab w)) : Pair (ts + 1) ts m p q W :=
  ⟨h.out.2.1, h.out.1.2.2.2.1, tab_keep hT.out h.out.1.1⟩
theorem end_o {w W W' : World} {bs gs X m c ts os : Nat} {q q' : Option Addr} {ps p : Nat → Bool} (h : Hid (EndAt w bs gs X m q c ps p ts os W)) (hT : Hid (TabAt 0 Lib.deBruijn64tab w)) (hb : Below W.heap.size W W') (hr : RefAt W' q' m (otherP m p)) : Pair (os + 1) os m (otherP m p) q' W' :=
  ⟨h.out.2.2.1.keep hb, hr, tab_keep hT.out (h.out.keep hb).1.1⟩
set_option maxRecDepth 100000 in
set_option maxHeartbeats 8000000 in
theorem walk_list (n : Int) (h0 : -9223372036854775808 ≤ n) (h1 : n ≤ 9223372036854775807) (a : Option Addr) (cap : Nat) (l : List (Int × Int)) (w : World) (hl : ReadsO w.heap.size w a l) (hm : l.length ≤ maxLen) (hT : TabAt 0 Lib.deBruijn64tab w) :
    Calls Tryd.prog 3 #[.int .i64 n, .slice a l.length cap] w fun e w' => e = .returned (.bool true) ∧ Below w.heap.size w w' := by
  have HL := Lib.hid hl
  have HT := Lib.hid hT
  have HM := Lib.hid hm
  clear hl hT hm
  by_cases h200 : 200 < l.length
  · have hm : l.length ≤ 9223372036854775807 := by have := HM.out; unfold maxLen at this; omega
    go_enter Tryd.func3, Tryd.ntmps3
    go_wp2_with fail
    refine (awake_any _ HT.out).mono ?_
    rintro e w1 ⟨rfl, hb1⟩
    have HB := Lib.hid hb1
    clear hb1
    go_wp2
    go_ret
    exact ⟨rfl, HB.out⟩
  have hlen : l.length ≤ 200 := by omega
  clear h200
  go_enter Tryd.func3, Tryd.ntmps3
  go_wp2_with fail
  refine (new_any n h0 h1 w).mono ?_
  rintro e w1 ⟨rfl, hb1, hs1⟩
  have HB1 := Lib.hid hb1
  have HS1 := Lib.hid hs1
  clear hb1 hs1 h0 h1
  have hm4 := roomN_le n
  go_wp2_with fail
  refine (newRef_any n w1).mono ?_
  rintro e w2 ⟨h, rfl, hb2, hh, hlt, hr⟩
  have HP := Lib.hid (play_start 28 HB1.out HS1.out hb2 hh hlt hr)
  clear HB1 HS1 hb2 hh hlt hr
  generalize roomN n = m at *
  go_upto_region 4 with fail
  generalize (w2.alloc (.cells #[.int .i64 (m : Int), .slice (some ⟨h, 0, none⟩) m m] 28)) = W at *
  generalize w2.heap.size = X at *
  generalize hbs : w.heap.size + 1 = bs at *
  clear hbs
  obtain ⟨gs, hgs⟩ : ∃ gs, PlayAt w bs gs X m (some ⟨h, 0, none⟩) m noneP noneP W := ⟨_, HP.out⟩
  clear HP
  have HP := Lib.hid hgs
  clear hgs
  obtain ⟨x0, x1, -, -⟩ := play_cells HP
  go_wp2_with fail
  refine (same_true bs gs m noneP (some ⟨h, 0, none⟩) m W (play_pair HP HT)).mono ?_
  rintro e w3 ⟨rfl, hb3⟩
  have HP3 := Lib.hid (HP.out.keep hb3)
  clear hb3 HP x0 x1
  go_wp2_with fail
  go_loopw [7] (fun i wr => ∃ (k : Nat) (q : Option Addr) (c : Nat) (p : Nat → Bool), i = .int .i64 k ∧ k ≤ l.length ∧ Hid (PlayAt w bs gs X m q c p p wr)) (fun i _ => l.length - (intOf i).toNat)
  case atStart => exact ⟨0, _, _, _, rfl, Nat.zero_le _, HP3⟩
  case round =>
    obtain ⟨k, q, c, p, rfl, hk, HP⟩ := hrel
    clear HP3
    have i0 : (0 : Int) ≤ (k : Int) := by omega
    by_cases hlt : k < l.length
    · have hP1 := HP.out.1
      obtain ⟨b, off, rfl, hbN, d0, d1⟩ := HL.out.at hP1 hlt
      have i1 : (k : Int) < (l.length : Int) := by omega
      have HD : Hid (∀ W', Below wr.heap.size wr W' → W'.cell? ⟨b, off + k * 2, none⟩ = some (.int .i64 l[k].1)) := Lib.hid fun W' hb => (hb.cell (p := ⟨b, off + k * 2, none⟩) (by exact Nat.lt_of_lt_of_le hbN hP1.size)).trans d0
      clear hP1
      generalize l[k].1 = K at *
      generalize l[k].2 = v at *
      obtain ⟨x0, x1, -, -⟩ := play_cells HP
      go_wp2_with fail
      refine (hasRef_any m p q c v wr (play_ref HP)).mono ?_
      rintro e w1 ⟨rfl, hb1⟩
      obtain ⟨y0, y1, HP1⟩ := play_keep HP hb1
      have d2 := HD.out w1 hb1
      clear hb1 HD d0 d1 x0 x1 HP
      go_upto_region 11 with fail
      go_cut [10] from 27 to 90 (fun o wx => o = .bool (fitB m v) ∧ wx = w1)
      case first =>
        by_cases a1 : 0 ≤ v
        · have t1 : decide (v ≥ 0) = true := decide_eq_true a1
          by_cases a2 : v < (m : Int)
          · have t2 : decide (v < (m : Int)) = true := decide_eq_true a2
            have HF : Hid (fitB m v = true) := Lib.hid (by unfold fitB; rw [decide_eq_true a1, t2]; rfl)
            clear a1 a2
            go_wp2_with fail
            go_meet
            case rel => exact ⟨by rw [HF.out], rfl⟩
          · have t2 : decide (v < (m : Int)) = false := decide_eq_false a2
            have HF : Hid (fitB m v = false) := Lib.hid (by unfold fitB; rw [t2, Bool.and_false])
            clear a1 a2
            go_wp2_with fail
            go_meet
            case rel => exact ⟨by rw [HF.out], rfl⟩
        · have t1 : decide (v ≥ 0) = false := decide_eq_false a1
          have HF : Hid (fitB m v = false) := Lib.hid (by unfold fitB; rw [decide_eq_false a1, Bool.false_and])
          clear a1
          go_wp2_with fail
          go_meet
          case rel => exact ⟨by rw [HF.out], rfl⟩
      case rest =>
        obtain ⟨rfl, rfl⟩ := hcut
        obtain ⟨r, hr⟩ : ∃ r, fitB m v = r := ⟨_, rfl⟩
        obtain ⟨D, hD⟩ : ∃ D, (fitB m v && p v.toNat) = D := ⟨_, rfl⟩
        have HQ : Hid ((fitB m v && !p v.toNat) = (r && !D)) := Lib.hid (by rw [← hD, ← hr]; cases fitB m v <;> cases p v.toNat <;> rfl)
        have HZ : Hid (r = false → D = false) := Lib.hid (fun e => by rw [← hD, hr, e]; rfl)
        have HDD := Lib.hid hD
        rw [hD, hr]
        clear hD hr
        by_cases k0 : K = 0
        · subst k0
          go_wp2_with fail
          refine (put_any bs gs m p v wc (play_set HP1)).mono ?_
          rintro e w2 ⟨rfl, hg2, hs2⟩
          rw [HQ.out]
          have HP2 := Lib.hid (HP1.out.turn hg2 hs2)
          clear hg2 hs2 HP1 y0 y1 d2
          obtain ⟨x0, x1, -, -⟩ := play_cells HP2
          go_wp2_with fail
          refine (withRef_any m hm4 p q c v true w2 (play_ref HP2)).mono ?_
          rintro e w3 ⟨q3, c3, rfl, hr3, ho3, hb3⟩
          have hS := HP2.out.store (c' := c3) hb3 hr3 ho3
          rw [withP_put] at hS
          have HS := Lib.hid hS
          obtain ⟨y0, y1, f0, f1⟩ := play_cells (Lib.hid (HP2.out.keep hb3))
          clear hS hr3 ho3 hb3 HP2 x0 x1
          cases r
          · obtain rfl := HZ.out rfl
            go_upto_region 23 with fail
            generalize ((w3.setCell ⟨X, 0, none⟩ (.int .i64 (m : Int))).setCell ⟨X, 1, none⟩ (.slice q3 m c3)) = w4 at *
            generalize hP : putP m p v = P at *
            clear hP y0 y1 f0 f1
            have HP4 := HS
            obtain ⟨x0, x1, -, -⟩ := play_cells HP4
            obtain ⟨C, hC⟩ : ∃ C, (fitB m v && P v.toNat) = C := ⟨_, rfl⟩
            have HC := Lib.hid hC
            have tC : (C != C) = false := bne_self_eq_false _
            clear hC
            go_region_held3 (fun W => W.cell? ⟨X, 0, none⟩ = some (.int .i64 (m : Int)) ∧ W.cell? ⟨X, 1, none⟩ = some (.slice q3 m c3) ∧ Hid (PlayAt w bs gs X m q3 c3 P P W))
              (first
                | exact play_keep HP4 ((Below.refl _ _).drew)
                | (go_split_ands; exact play_keep (by assumption) hb8)
                | (go_split_ands; exact play_keep (by assumption) hb7)
                | go_keep)
              (first
                | (go_at_call 14; go_split_ands; refine (has_any bs gs m P v _ (play_set (by assumption))).mono ?_; rintro e v1 ⟨rfl, hd⟩; have hb7 := drawn_below hd; clear hd; rw [HC.out])
                | (go_at_call 10; go_split_ands; refine (hasRef_any m P q3 c3 v _ (play_ref (by assumption))).mono ?_; rintro e v2 ⟨rfl, hb8⟩; rw [HC.out]))
            all_goals go_wp2
            all_goals go_roundw
            case rel => exact ⟨k + 1, q3, c3, P, by go_num, by omega, (by assumption : _ ∧ _ ∧ Hid (PlayAt w bs gs X m q3 c3 P P _)).2.2⟩
            case measure => (simp [intOf] <;> omega)
          · have tt : ((!D) != (!D)) = false := bne_self_eq_false _
            go_upto_region 23 with fail
            generalize ((w3.setCell ⟨X, 0, none⟩ (.int .i64 (m : Int))).setCell ⟨X, 1, none⟩ (.slice q3 m c3)) = w4 at *
            generalize hP : putP m p v = P at *
            clear hP y0 y1 f0 f1
            have HP4 := HS
            obtain ⟨x0, x1, -, -⟩ := play_cells HP4
            obtain ⟨C, hC⟩ : ∃ C, (fitB m v && P v.toNat) = C := ⟨_, rfl⟩
            have HC := Lib.hid hC
            have tC : (C != C) = false := bne_self_eq_false _
            clear hC
            go_region_held3 (fun W => W.cell? ⟨X, 0, none⟩ = some (.int .i64 (m : Int)) ∧ W.cell? ⟨X, 1, none⟩ = some (.slice q3 m c3) ∧ Hid (PlayAt w bs gs X m q3 c3 P P W))
              (first
                | exact play_keep HP4 ((Below.refl _ _).drew)
                | (go_split_ands; exact play_keep (by assumption) hb8)
                | (go_split_ands; exact play_keep (by assumption) hb7)
                | go_keep)
              (first
                | (go_at_call 14; go_split_ands; refine (has_any bs gs m P v _ (play_set (by assumption))).mono ?_; rintro e v1 ⟨rfl, hd⟩; have hb7 := drawn_below hd; clear hd; rw [HC.out])
                | (go_at_call 10; go_split_ands; refine (hasRef_any m P q3 c3 v _ (play_ref (by assumption))).mono ?_; rintro e v2 ⟨rfl, hb8⟩; rw [HC.out]))
            all_goals go_wp2
            all_goals go_roundw
            case rel => exact ⟨k + 1, q3, c3, P, by go_num, by omega, (by assumption : _ ∧ _ ∧ Hid (PlayAt w bs gs X m q3 c3 P P _)).2.2⟩
            case measure => (simp [intOf] <;> omega)
        · have s0 : (K == 0) = false := by simpa using k0
          by_cases k1 : K = 1
          · subst k1
            go_wp2_with fail
            refine (drop_any bs gs m p v wc (play_set HP1)).mono ?_
            rintro e w2 ⟨rfl, hg2, hs2⟩
            rw [HDD.out]
            have HP2 := Lib.hid (HP1.out.turn hg2 hs2)
            have hpp := HP1.out.2.1.2.2.2.1
            clear hg2 hs2 HP1 y0 y1 d2
            obtain ⟨x0, x1, -, -⟩ := play_cells HP2
            go_wp2_with fail
            refine (withRef_any m hm4 p q c v false w2 (play_ref HP2)).mono ?_
            rintro e w3 ⟨q3, c3, rfl, hr3, ho3, hb3⟩
            have hS := HP2.out.store (c' := c3) hb3 hr3 ho3
            rw [withP_drop m p v hpp] at hS
            have HS := Lib.hid hS
            obtain ⟨y0, y1, f0, f1⟩ := play_cells (Lib.hid (HP2.out.keep hb3))
            clear hS hr3 ho3 hb3 HP2 x0 x1 hpp
            have tt : (D != D) = false := bne_self_eq_false _
            go_upto_region 23 with fail
            generalize ((w3.setCell ⟨X, 0, none⟩ (.int .i64 (m : Int))).setCell ⟨X, 1, none⟩ (.slice q3 m c3)) = w4 at *
            generalize hP : dropP p v = P at *
            clear hP y0 y1 f0 f1
            have HP4 := HS
            obtain ⟨x0, x1, -, -⟩ := play_cells HP4
            obtain ⟨C, hC⟩ : ∃ C, (fitB m v && P v.toNat) = C := ⟨_, rfl⟩
            have HC := Lib.hid hC
            have tC : (C != C) = false := bne_self_eq_false _
            clear hC
            go_region_held3 (fun W => W.cell? ⟨X, 0, none⟩ = some (.int .i64 (m : Int)) ∧ W.cell? ⟨X, 1, none⟩ = some (.slice q3 m c3) ∧ Hid (PlayAt w bs gs X m q3 c3 P P W))
              (first
                | exact play_keep HP4 ((Below.refl _ _).drew)
                | (go_split_ands; exact play_keep (by assumption) hb8)
                | (go_split_ands; exact play_keep (by assumption) hb7)
                | go_keep)
              (first
                | (go_at_call 14; go_split_ands; refine (has_any bs gs m P v _ (play_set (by assumption))).mono ?_; rintro e v1 ⟨rfl, hd⟩; have hb7 := drawn_below hd; clear hd; rw [HC.out])
                | (go_at_call 10; go_split_ands; refine (hasRef_any m P q3 c3 v _ (play_ref (by assumption))).mono ?_; rintro e v2 ⟨rfl, hb8⟩; rw [HC.out]))
            all_goals go_wp2
            all_goals go_roundw
            case rel => exact ⟨k + 1, q3, c3, P, by go_num, by omega, (by assumption : _ ∧ _ ∧ Hid (PlayAt w bs gs X m q3 c3 P P _)).2.2⟩
            case measure => (simp [intOf] <;> omega)
          · have s1 : (K == 1) = false := by simpa using k1
            go_wp2_with fail
            refine (has_any bs gs m p v wc (play_set HP1)).mono ?_
            rintro e w2 ⟨rfl, hd⟩
            rw [HDD.out]
            have hb2 := drawn_below hd
            obtain ⟨x0, x1, HP4⟩ := play_keep HP1 hb2
            clear hb2 hd HP1 y0 y1 d2
            have tt : (D != D) = false := bne_self_eq_false _
            obtain ⟨w4, q3, c3, P, e1, e2, e3, e4⟩ : ∃ w4 q3 c3 P, w4 = w2 ∧ q3 = q ∧ c3 = c ∧ P = p := ⟨_, _, _, _, rfl, rfl, rfl, rfl⟩
            subst e1 e2 e3 e4
            go_upto_region 23 with fail
            obtain ⟨C, hC⟩ : ∃ C, (fitB m v && P v.toNat) = C := ⟨_, rfl⟩
            have HC := Lib.hid hC
            have tC : (C != C) = false := bne_self_eq_false _
            clear hC
            go_region_held3 (fun W => W.cell? ⟨X, 0, none⟩ = some (.int .i64 (m : Int)) ∧ W.cell? ⟨X, 1, none⟩ = some (.slice q3 m c3) ∧ Hid (PlayAt w bs gs X m q3 c3 P P W))
              (first
                | exact play_keep HP4 ((Below.refl _ _).drew)
                | (go_split_ands; exact play_keep (by assumption) hb8)
                | (go_split_ands; exact play_keep (by assumption) hb7)
                | go_keep)
              (first
                | (go_at_call 14; go_split_ands; refine (has_any bs gs m P v _ (play_set (by assumption))).mono ?_; rintro e v1 ⟨rfl, hd⟩; have hb7 := drawn_below hd; clear hd; rw [HC.out])
                | (go_at_call 10; go_split_ands; refine (hasRef_any m P q3 c3 v _ (play_ref (by assumption))).mono ?_; rintro e v2 ⟨rfl, hb8⟩; rw [HC.out]))
            all_goals go_wp2
            all_goals go_roundw
            case rel => exact ⟨k + 1, q3, c3, P, by go_num, by omega, (by assumption : _ ∧ _ ∧ Hid (PlayAt w bs gs X m q3 c3 P P _)).2.2⟩
            case measure => (simp [intOf] <;> omega)
    · have hke : k = l.length := by omega
      clear HL
      obtain ⟨x0, x1, -, -⟩ := play_cells HP
      obtain ⟨W4, hW4⟩ : ∃ W4, W4 = wr := ⟨_, rfl⟩
      subst hW4
      go_wp2_with fail
      refine (twin_any bs gs m p W4 (play_set HP)).mono ?_
      rintro e w5 ⟨rfl, hb5, hs5⟩
      have l1 : gs < W4.heap.size := (play_set HP).lt.2
      obtain ⟨y0, y1, HP5⟩ := play_keep HP hb5
      have l2 : gs < w5.heap.size := (play_set HP5).lt.2
      have HS5 := Lib.hid hs5
      clear hb5 hs5 HP x0 x1
      go_wp2_with fail
      refine (other_any bs gs m p w5 (play_set HP5)).mono ?_
      rintro e w6 ⟨rfl, hb6, hs6⟩
      have hE6 : EndAt w bs gs X m q c p p W4.heap.size w5.heap.size w6 := ⟨HP5.out.keep hb6, HS5.out.keep hb6, hs6, l1, l2⟩
      have HE6 := Lib.hid hE6
      clear hE6 hb6 hs6 l1 l2 HS5 HP5 y0 y1
      generalize W4.heap.size = ts at *
      generalize w5.heap.size = os at *
      obtain ⟨x0, x1⟩ := end_cells HE6
      go_wp2_with fail
      refine (same_true bs gs m p q c w6 (play_pair (Lib.hid HE6.out.1) HT)).mono ?_
      rintro e w7 ⟨rfl, hb7⟩
      have HE7 := Lib.hid (HE6.out.keep hb7)
      clear hb7 HE6 x0 x1
      obtain ⟨x0, x1⟩ := end_cells HE7
      go_wp2_with fail
      refine (same_true (ts + 1) ts m p q c w7 (end_t HE7 HT)).mono ?_
      rintro e w8 ⟨rfl, hb8⟩
      have HE8 := Lib.hid (HE7.out.keep hb8)
      clear hb8 HE7 x0 x1
      obtain ⟨x0, x1⟩ := end_cells HE8
      go_wp2_with fail
      refine (otherRef_any m hm4 p q c w8 HE8.out.1.2.2.2.1).mono ?_
      rintro e w9 ⟨q9, rfl, hr9, hb9⟩
      have HE9 := Lib.hid (HE8.out.keep hb9)
      have HP9 := Lib.hid (end_o HE8 HT hb9 hr9)
      clear hb9 HE8 x0 x1 hr9
      go_wp2_with fail
      refine (same_true (os + 1) os m (otherP m p) q9 m w9 HP9.out).mono ?_
      rintro e w10 ⟨rfl, hb10⟩
      have HE10 := Lib.hid (HE9.out.keep hb10)
      clear hb10 HE9 HP9
      go_wp2_with fail
      refine (put_any bs gs m p 0 w10 HE10.out.1.2.1).mono ?_
      rintro e w11 ⟨rfl, hg11, hs11⟩
      have HE11 := Lib.hid (HE10.out.turn hg11 hs11)
      clear hg11 hs11 HE10
      go_wp2_with fail
      refine (drop_any bs gs m (putP m p 0) 1 w11 HE11.out.1.2.1).mono ?_
      rintro e w12 ⟨rfl, hg12, hs12⟩
      have HE12 := Lib.hid (HE11.out.turn hg12 hs12)
      clear hg12 hs12 HE11
      obtain ⟨x0, x1⟩ := end_cells HE12
      go_wp2_with fail
      refine (same_true (ts + 1) ts m p q c w12 (end_t HE12 HT)).mono ?_
      rintro e w13 ⟨rfl, hb13⟩
      have HE13 := Lib.hid (HE12.out.keep hb13)
      clear hb13 HE12 x0 x1
      obtain ⟨x0, x1⟩ := end_cells HE13
      go_wp2_with fail
      refine (otherRef_any m hm4 p q c w13 HE13.out.1.2.2.2.1).mono ?_
      rintro e w14 ⟨q14, rfl, hr14, hb14⟩
      have HE14 := Lib.hid (HE13.out.keep hb14)
      have HP14 := Lib.hid (end_o HE13 HT hb14 hr14)
      clear hb14 HE13 x0 x1 hr14
      go_wp2_with fail
      refine (same_true (os + 1) os m (otherP m p) q14 m w14 HP14.out).mono ?_
      rintro e w15 ⟨rfl, hb15⟩
      have HE15 := Lib.hid (HE14.out.keep hb15)
      clear hb15 HE14 HP14
      go_wp2_with fail
      refine (awake_any w15 (tab_keep HT.out HE15.out.1.1)).mono ?_
      rintro e w16 ⟨rfl, hb16⟩
      have HB16 := Lib.hid (HE15.out.1.1.trans (hb16.mono HE15.out.1.1.size))
      clear hb16
      go_wp2
      go_ret
      exact ⟨rfl, HB16.out⟩
theorem laidOut : laidOutB Tryd.prog = true := by kernel_rfl
set_option maxRecDepth 100000 in
theorem lifted (os : Os) (started : os.Started) (H : Type) (enc : TypeId × Value → H) :
    ReturnsInHanded {} Tryd.checked os 3 .any (fun w args => (Rows.vsetPlaysSpec.pre enc Tryd.prog Tryd.f3 [] false w args ∧ laidMetH Tryd.prog Rows.vsetPlaysRow.laid w) ∧ sizedMet enc Tryd.prog Tryd.f3 (OpenSpec.ofChange Rows.vsetPlaysSpec) false w args)
      (Rows.vsetPlaysSpec.post enc Tryd.prog Tryd.f3 false true false false) := by
  refine returnsInHanded_of_change_and (C := Tryd.checked) (X := fun w _ => laidMetH Tryd.prog Rows.vsetPlaysRow.laid w) (fun _ _ _ hh h => h.of_heap hh) own started (by kernel_rfl) Tryd.func3
    (ChangeSpec.witness_at (enc := enc) (C := Tryd.checked) (os := os) (X := fun w _ => laidMetH Tryd.prog Rows.vsetPlaysRow.laid w) false (laidWorld Tryd.prog os) #[.int .i64 0, .slice none 0 0] 8 rfl (by kernel_rfl) (by kernel_rfl) (by kernel_rfl) (by kernel_rfl) (by kernel_rfl) (laid_met os _)) ?_
  intro W base args ds gs before hval0 hW _ _ hL _
  have hval : ∀ (j : Nat) t v, Tryd.f3.params[j]? = some t → args[j]? = some v → Value.okWide Tryd.prog W .any base t v := hval0
  have hW' := hW
  obtain ⟨p, q, hA0, hV, rfl, hfz, hnd⟩ := hW
  have hA : DataW.TrodAll enc Tryd.prog W 0 (fun _ => true) true Tryd.f3.params.toList args.toList ds p := hA0
  rw [Tryd.params3] at hA hval
  obtain ⟨v0, vs0, d0, ds0, p0, q0, hargs, rfl, rfl, h0, r0⟩ := trodAll_cons hA
  obtain ⟨v1, vs1, d1, ds1, p1, q1, rfl, rfl, rfl, h1, r1⟩ := trodAll_cons r0
  obtain ⟨rfl, rfl, rfl⟩ := trodAll_nil r1
  obtain rfl : args = #[v0, v1] := by cases args; simp_all
  obtain ⟨rfl, rfl⟩ := trodVars_none hV
  obtain ⟨a0, rfl, rfl, rfl, w0⟩ := open_int Tryd.underlying3 (hval 0 3 v0 rfl rfl) h0
  obtain ⟨a1, len1, cap1, rfl⟩ := okWide_slice Tryd.underlying22 (hval 1 22 v1 rfl rfl)
  have k1 := h1
  have lt1 : ∀ x ∈ p1, x.block < W.heap.size := by obtain ⟨m, hm⟩ := k1; exact DataW.trod_lt m _ _ _ hm
  obtain ⟨l, hlen, w1⟩ : ∃ l : List (Int × Int), l.length = len1 ∧ ReadsO W.heap.size W a1 l ∧ l.length ≤ maxLen := by
    obtain ⟨fuel, hf⟩ := h1
    exact open_ops hf
  subst hlen
  obtain ⟨g0, g1⟩ := bounds_i64 w0
  clear hA0 hval0
  refine (walk_list a0 g0 g1 a1 cap1 l W w1.1 w1.2 (tab_of_laid hL)).mono fun e W' ⟨he, bel⟩ => ?_
  subst he
  exact ⟨_, rfl, _, _, _, [], _, [], hW', trodAll_mk1 (shut_bool Tryd.underlying4 _), (trodAll_cons_mk (shut_int Tryd.underlying3 w0) (trodAll_cons_mk (Below.trod laidOut (by kernel_rfl) (of_decide_eq_true (by kernel_rfl)) k1 bel lt1) trodAll_mk0)), rfl, bel.frame _, fun h => by cases h⟩
theorem over : Rows.vsetPlaysRow.holds Tryd.pinned (OpenSpec.ofChange Rows.vsetPlaysSpec) :=
  OpenClaim.holds_of_wide 3 Tryd.f3 rfl rfl rfl rfl rfl rfl rfl ⟨rfl, rfl, rfl, rfl, rfl⟩ rfl rfl rfl rfl rfl (by kernel_rfl) Tryd.func3 (by kernel_rfl)
    (of_decide_eq_true (by kernel_rfl)) (by unfold Func.isWrapper; first | (rw [if_pos (by decide +kernel)]; kernel_rfl) | (rw [if_neg (by decide +kernel)]; exact ⟨rfl, rfl⟩))
    (fun os started H enc _ => lifted os started H enc)
/-- The statement: the tied card. -/
theorem proved : Rows.VsetPlaysCardSaid :=
  Claim7.holds_tied_plain_at .later [] [.data] true Rows.vsetPlaysCard.stood.harness Rows.vsetPlaysCard.stood.looks
    over (fun _ h => by cases h) (by kernel_rfl) (fun _ h => by cases h) vsetPlays_row_tie rfl ⟨rfl, rfl⟩ (by kernel_rfl) rfl
    (fun f fn hf hfn => by
      obtain rfl : f = 3 := Option.some.inj ((show Tryd.prog.funcNamed Rows.vsetPlaysRow.func = some 3 by kernel_rfl).symm.trans hf) |>.symm
      obtain rfl : fn = Tryd.f3 := (Option.some.inj (Tryd.func3.symm.trans hfn)).symm
      exact ⟨by kernel_rfl, fun j t ht => by
        rw [Tryd.params3] at ht
        have hall : ∀ t ∈ #[3, 22], Tryd.prog.wantsStandIn t = false := by decide +kernel
        exact hall t (Array.mem_of_getElem? ht)⟩)
    (by kernel_rfl)
#print axioms proved
end Go.Proofs.YtkhkejfpoaleoaaDoor.vsetPlays
