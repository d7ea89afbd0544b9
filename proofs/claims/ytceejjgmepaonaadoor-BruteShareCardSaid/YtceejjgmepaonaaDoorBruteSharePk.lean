/- What is in all least sides between two vertices is a least side; the least of all cuts is the least of all pairs'. Conditions: none: every number of vertices up to 255, every slice of edges (of more than 60 edges, or more than seven vertices, the law asks only that the program goes through cuts at all). -/
import Derived.Test.YtceejjgmepaonaaDoorPk32
import Derived.Test.YtceejjgmepaonaaDoorPk36
import Derived.Test.YtceejjgmepaonaaDoorPk40
import Derived.Test.YtceejjgmepaonaaDoorPk42
import Derived.Test.YtceejjgmepaonaaDoorChecked
import Derived.Test.YtceejjgmepaonaaDoorRows
import Derived.Test.YtceejjgmepaonaaDoorTie
import Derived.Test.YtceejjgmepaonaaDoorCards
import Derived.ChangeSlices
import Derived.ProofKit
import Derived.OpenShut
import Derived.ChangeOld
import Derived.Below
import Derived.Carry
import Derived.SevenTiedAt
namespace Go.Proofs.YtceejjgmepaonaaDoor.bruteShare
open Go.ChangeShapes Go.WideShapes Go.ChangeAt Go.RowKit EdPure NtPure CutPure SdPure BrPure Cm Sd Br Bg
/-- What stands: the graph, the least cut of all. -/
def ShSt (w : World) (N : Nat) (M : List Ed) (g Y : Nat) (x : Int) (q : Option Addr) (c : Nat) (L : List Int) (W : World) : Prop :=
  Below w.heap.size w W ∧ NetAt (some ⟨g, 0, none⟩) N M W ∧ CutAt Y x q c L W
theorem ShSt.keep {w W W' : World} {N : Nat} {M : List Ed} {g Y : Nat} {x : Int} {q : Option Addr} {c : Nat} {L : List Int} (h : ShSt w N M g Y x q c L W) (hb : Below W.heap.size W W') : ShSt w N M g Y x q c L W' :=
  ⟨h.1.trans (hb.mono h.1.size), h.2.1.over hb, h.2.2.keep hb⟩
/-- Right's answer of a right cut. -/
theorem right_true (p : Option Addr) (N : Nat) (M : List Ed) (hN : N ≤ 4096) (hG : GoodN N M) (hM : M.length ≤ 1048576) (x : Int) (b : Option Addr) (d : Nat) (l : List Int) (hl : l.length ≤ 100000) (h1 : chkS (N : Int) l = 0) (h2 : cutW M (inS l) = x) (w : World) (h : NetAt p N M w) (hS : ReadsL encZ w.heap.size w b l) :
    Calls Tryd.prog 15 #[.pointer p, .agg #[.int .i64 x, .slice b l.length d]] w fun e w' => e = .returned (.bool true) ∧ Below w.heap.size w w' := by
  have h3 := sideRight_any p N M hN hG hM x b d l hl w h hS
  rw [decide_eq_true h1, decide_eq_true h2] at h3
  exact h3
set_option maxRecDepth 100000 in
set_option maxHeartbeats 8000000 in
theorem walk_list (n : Int) (hn : (Lit.int .u8 n).wf = true) (a : Option Addr) (cap : Nat) (l : List Ed) (W : World) (h1 : EdIn W a l) (_h2 : l.length ≤ maxLen) (hT : Tab W) :
    Calls Tryd.prog 4 #[.int .u8 n, .slice a l.length cap] W fun r w' => r = .returned (.bool true) ∧ Below W.heap.size W w' := by
  obtain ⟨n0, n1⟩ : 0 ≤ n ∧ n ≤ 255 := bounds_u8 hn
  clear hn
  have HTab := Lib.hid hT
  clear hT
  have HE0 : Hid (InSt W a l W) := Lib.hid ⟨Below.refl _ _, h1.2⟩
  by_cases hlen : l.length ≤ 60
  case neg =>
    have i1 : (l.length : Int) > 60 := by omega
    go_enter Tryd.func4, Tryd.ntmps4
    go_wp2_with fail
    refine (awake_any _ (tab_on HTab.out (by first | exact Below.refl _ _ | exact HB8.out | exact HB8.out.1 | exact HB8.out.1.1 | exact HB9.out | exact HB9.out.1 | exact HB9.out.1.1 | exact HBL.out | exact HBL.out.1 | exact HBL.out.1.1 | exact HE0.out | exact HE0.out.1 | exact HE0.out.1.1 | exact HE1.out | exact HE1.out.1 | exact HE1.out.1.1 | exact HE2.out | exact HE2.out.1 | exact HE2.out.1.1 | exact HS.out | exact HS.out.1 | exact HS.out.1.1 | exact HS0.out | exact HS0.out.1 | exact HS0.out.1.1 | exact HS6.out | exact HS6.out.1 | exact HS6.out.1.1 | exact HS7.out | exact HS7.out.1 | exact HS7.out.1.1) (Nat.le_refl _))).mono ?_
    rintro e w1 ⟨rfl, hb⟩
    have HE1 := Lib.hid (HE0.out.keep hb)
    clear hb HE0
    go_wp2
    go_ret
    exact ⟨rfl, HE1.out.1⟩
  have i1 : ¬ (l.length : Int) > 60 := by omega
  by_cases h7 : n > 7
  · go_enter Tryd.func4, Tryd.ntmps4
    go_wp2_with fail
    refine (awake_any _ (tab_on HTab.out (by first | exact Below.refl _ _ | exact HB8.out | exact HB8.out.1 | exact HB8.out.1.1 | exact HB9.out | exact HB9.out.1 | exact HB9.out.1.1 | exact HBL.out | exact HBL.out.1 | exact HBL.out.1.1 | exact HE0.out | exact HE0.out.1 | exact HE0.out.1.1 | exact HE1.out | exact HE1.out.1 | exact HE1.out.1.1 | exact HE2.out | exact HE2.out.1 | exact HE2.out.1.1 | exact HS.out | exact HS.out.1 | exact HS.out.1.1 | exact HS0.out | exact HS0.out.1 | exact HS0.out.1.1 | exact HS6.out | exact HS6.out.1 | exact HS6.out.1.1 | exact HS7.out | exact HS7.out.1 | exact HS7.out.1.1) (Nat.le_refl _))).mono ?_
    rintro e w1 ⟨rfl, hb⟩
    have HE1 := Lib.hid (HE0.out.keep hb)
    clear hb HE0
    go_wp2
    go_ret
    exact ⟨rfl, HE1.out.1⟩
  have HNew := Lib.hid (newU_any n a cap l h1.1 _ h1.2)
  obtain ⟨e1, e2, he⟩ : ∃ e1 e2, errN n l = (e1, e2) := ⟨_, _, rfl⟩
  have HEQ := Lib.hid he
  unfold NewU Kind at HNew
  rw [he] at HNew
  simp only at HNew
  clear h1 he
  go_enter Tryd.func4, Tryd.ntmps4
  go_wp2_with fail
  refine HNew.out.mono ?_
  rintro e w1 ⟨hb, p, N, M, rfl, hnt, ⟨hN, hM, hG⟩, ⟨hz, rfl, rfl, rfl⟩ | ⟨hz, ⟨g0, rfl⟩, hnN, hm⟩⟩
  · have t1 : (e1 != 0) = true := by simpa using hz
    have HE1 := Lib.hid (HE0.out.keep hb)
    clear hnt hN hM hG HNew hb hz HE0 HEQ
    go_wp2_with fail
    refine (awake_any _ (tab_on HTab.out (by first | exact Below.refl _ _ | exact HB8.out | exact HB8.out.1 | exact HB8.out.1.1 | exact HB9.out | exact HB9.out.1 | exact HB9.out.1.1 | exact HBL.out | exact HBL.out.1 | exact HBL.out.1.1 | exact HE0.out | exact HE0.out.1 | exact HE0.out.1.1 | exact HE1.out | exact HE1.out.1 | exact HE1.out.1.1 | exact HE2.out | exact HE2.out.1 | exact HE2.out.1.1 | exact HS.out | exact HS.out.1 | exact HS.out.1.1 | exact HS0.out | exact HS0.out.1 | exact HS0.out.1.1 | exact HS6.out | exact HS6.out.1 | exact HS6.out.1.1 | exact HS7.out | exact HS7.out.1 | exact HS7.out.1.1) (Nat.le_refl _))).mono ?_
    rintro e w2 ⟨rfl, hb⟩
    have HE2 := Lib.hid (HE1.out.keep hb)
    clear hb HE1
    go_wp2
    go_ret
    exact ⟨rfl, HE2.out.1⟩
  simp only [Prod.mk.injEq] at hz
  obtain ⟨rfl, rfl⟩ := hz
  subst hnN
  have hM2 : M.length ≤ 60 := Nat.le_trans (few_edges hN HEQ.out (by omega) hm) hlen
  have HM : Hid (M.length ≤ 100000) := Lib.hid (by omega)
  have HE1 := Lib.hid (HE0.out.keep hb)
  have HN1 := Lib.hid hnt
  have HGG := Lib.hid hG
  have HNN := Lib.hid hN
  clear hb HNew HE0 HEQ hG hnt hN hM hm
  by_cases hn2 : (N : Int) < 2
  · clear HGG
    go_wp2_with fail
    refine (awake_any _ (tab_on HTab.out (by first | exact Below.refl _ _ | exact HB8.out | exact HB8.out.1 | exact HB8.out.1.1 | exact HB9.out | exact HB9.out.1 | exact HB9.out.1.1 | exact HBL.out | exact HBL.out.1 | exact HBL.out.1.1 | exact HE0.out | exact HE0.out.1 | exact HE0.out.1.1 | exact HE1.out | exact HE1.out.1 | exact HE1.out.1.1 | exact HE2.out | exact HE2.out.1 | exact HE2.out.1.1 | exact HS.out | exact HS.out.1 | exact HS.out.1.1 | exact HS0.out | exact HS0.out.1 | exact HS0.out.1.1 | exact HS6.out | exact HS6.out.1 | exact HS6.out.1.1 | exact HS7.out | exact HS7.out.1 | exact HS7.out.1.1) (Nat.le_refl _))).mono ?_
    rintro e w2 ⟨rfl, hb⟩
    have HE2 := Lib.hid (HE1.out.keep hb)
    clear hb HE1
    go_wp2
    go_ret
    exact ⟨rfl, HE2.out.1⟩
  have hs0 : smallE (N : Int) = 0 := small_zero.2 ⟨by omega, by omega⟩
  have HP1 := Lib.hid (fun w h ht => brLeast_any (some ⟨g0, 0, none⟩) N M HNN.out HGG.out HM.out w h ht)
  unfold SideC at HP1
  rw [hs0] at HP1
  have HLS : Hid (chkS (N : Int) (lsS N M) = 0 ∧ cutW M (inS (lsS N M)) = lsW N M ∧ (lsS N M).length ≤ 20) := Lib.hid (by
    obtain ⟨b, x, e, -, hc, hw⟩ := least_side (M := M) (N := N) (by omega)
    have h1 : lsS N M = x := by unfold lsS; rw [if_pos hs0, e]; rfl
    have h2 : lsW N M = b := by unfold lsW; rw [if_pos hs0, e]; rfl
    have h3 := least_len (N := N) (by omega) (by omega) M
    rw [e] at h3
    rw [h1, h2]
    exact ⟨hc, hw, h3⟩)
  have HALL : Hid (∀ b, BestI N M N 0 b → b = lsW N M) := Lib.hid (fun b h => h.all HGG.out (by omega) (by omega))
  have HPF : Hid (∀ s t : Nat, s < N → t < N → s ≠ t → prE N s t = 0 ∧ chkS (N : Int) (prS N M s t) = 0 ∧ cutW M (inS (prS N M s t)) = prW N M s t ∧ inS (prS N M s t) s = true ∧ inS (prS N M s t) t = false ∧ 0 ≤ prW N M s t) := Lib.hid (fun s t hs ht hst => by
    obtain ⟨f1, f2, f3, f4, f5, -⟩ := pair_facts HGG.out (by omega) (s := (s : Int)) (t := (t : Int)) (by omega) (by omega) (by omega)
    exact ⟨f1, f2, f3, f4, f5, by rw [← f3]; exact cut_nonneg HGG.out.non _⟩)
  have HPR := Lib.hid (fun (s t : Nat) w h ht => brPair_any (some ⟨g0, 0, none⟩) N M HNN.out HGG.out HM.out (s : Int) (t : Int) w h ht)
  unfold SideC at HPR
  clear hs0
  generalize lsW N M = lw at *
  generalize lsS N M = ls at *
  go_wp2_with fail
  refine (HP1.out _ HN1.out (tab_on HTab.out (by first | exact Below.refl _ _ | exact HB8.out | exact HB8.out.1 | exact HB8.out.1.1 | exact HB9.out | exact HB9.out.1 | exact HB9.out.1.1 | exact HBL.out | exact HBL.out.1 | exact HBL.out.1.1 | exact HE0.out | exact HE0.out.1 | exact HE0.out.1.1 | exact HE1.out | exact HE1.out.1 | exact HE1.out.1.1 | exact HE2.out | exact HE2.out.1 | exact HE2.out.1.1 | exact HS.out | exact HS.out.1 | exact HS.out.1.1 | exact HS0.out | exact HS0.out.1 | exact HS0.out.1.1 | exact HS6.out | exact HS6.out.1 | exact HS6.out.1.1 | exact HS7.out | exact HS7.out.1 | exact HS7.out.1.1) (Nat.le_refl _))).mono ?_
  rintro e w2 ⟨hb, q2, c2, rfl, hr⟩
  have hbA : Below w2.heap.size w2 (w2.alloc (.cells #[.int .i64 lw, .slice q2 ls.length c2] 31)) := (Below.refl _ _).alloc (Nat.le_refl _) _
  have hbB := hb.trans (hbA.mono hb.size)
  have HS0 : Hid (ShSt W N M g0 w2.heap.size lw q2 c2 ls (w2.alloc (.cells #[.int .i64 lw, .slice q2 ls.length c2] 31))) := Lib.hid ⟨HE1.out.1.trans (hbB.mono HE1.out.1.size), HN1.out.over hbB, TwoAt.new _ _ _ _, hr.over hbA (Nat.le_refl _)⟩
  clear hb hbA hbB hr HP1 HN1 HE1
  go_upto_region 7 with fail
  generalize w2.alloc (.cells #[.int .i64 lw, .slice q2 ls.length c2] 31) = w3 at *
  generalize w2.heap.size = Y0 at *
  have HBI0 := Lib.hid (BestI.start N M)
  go_wp2
  go_loopw [10, 11] (fun bv i wr => ∃ (s : Nat) (b : Int), bv = .int .i64 b ∧ i = .int .i64 (s : Int) ∧ s ≤ N ∧ Hid (BestI N M s 0 b) ∧ Hid (ShSt W N M g0 Y0 lw q2 c2 ls wr)) (fun _ i _ => N - (intOf i).toNat)
  case atStart => exact ⟨0, -1, rfl, rfl, Nat.zero_le _, HBI0, HS0⟩
  case round =>
    clear HBI0 HS0
    obtain ⟨s, b, rfl, rfl, hs, HBI, HS⟩ := hrel
    by_cases hlt : s < N
    · have i2 : (s : Int) < (N : Int) := by omega
      go_wp2
      go_loopw [10, 12] (fun bv i wr => ∃ (t : Nat) (b : Int), bv = .int .i64 b ∧ i = .int .i64 (t : Int) ∧ t ≤ N ∧ Hid (BestI N M s t b) ∧ Hid (ShSt W N M g0 Y0 lw q2 c2 ls wr)) (fun _ i _ => N - (intOf i).toNat)
      case atStart => exact ⟨0, b, rfl, rfl, Nat.zero_le _, HBI, HS⟩
      case round =>
        clear HBI HS
        obtain ⟨t, b, rfl, rfl, ht, HBI, HS⟩ := hrel
        by_cases htn : t < N
        · have i3 : (t : Int) < (N : Int) := by omega
          by_cases hst : s = t
          · have t1 : ((s : Int) == (t : Int)) = true := by simp [hst]
            have HBI2 : Hid (BestI N M s (t + 1) b) := Lib.hid (by
              have h := HBI.out
              rw [← hst] at h ⊢
              exact h.skip)
            clear HBI
            go_wp2
            go_roundw
            case rel => exact ⟨t + 1, b, rfl, by go_num, htn, HBI2, HS⟩
            case measure => simp [intOf]; omega
          · have t1 : ((s : Int) == (t : Int)) = false := by simp; omega
            obtain ⟨f1, f2, f3, f4, f5, f6⟩ := HPF.out s t hlt htn hst
            have HPC := Lib.hid (HPR.out s t wr HS.out.2.1 (tab_on HTab.out (by first | exact Below.refl _ _ | exact HB8.out | exact HB8.out.1 | exact HB8.out.1.1 | exact HB9.out | exact HB9.out.1 | exact HB9.out.1.1 | exact HBL.out | exact HBL.out.1 | exact HBL.out.1.1 | exact HE0.out | exact HE0.out.1 | exact HE0.out.1.1 | exact HE1.out | exact HE1.out.1 | exact HE1.out.1.1 | exact HE2.out | exact HE2.out.1 | exact HE2.out.1.1 | exact HS.out | exact HS.out.1 | exact HS.out.1.1 | exact HS0.out | exact HS0.out.1 | exact HS0.out.1.1 | exact HS6.out | exact HS6.out.1 | exact HS6.out.1.1 | exact HS7.out | exact HS7.out.1 | exact HS7.out.1.1) (Nat.le_refl _)))
            rw [f1] at HPC
            have HSL : Hid ((prS N M s t).length ≤ 20) := Lib.hid (prS_len N M s t)
            have TAKE := Lib.hid (fun hb => HBI.out.take hlt htn hst f6 hb)
            have STAY := Lib.hid (fun h1 h2 => HBI.out.stay (s := s) (t := t) h1 h2)
            have HF23 := Lib.hid (And.intro f2 (And.intro f3 (And.intro f4 f5)))
            clear f1 f2 f3 f4 f5
            generalize prW N M (s : Int) (t : Int) = pw at *
            generalize prS N M (s : Int) (t : Int) = ps at *
            go_wp2_with fail
            refine HPC.out.mono ?_
            rintro e w5 ⟨hb, q5, c5, rfl, hr⟩
            have hbA : Below w5.heap.size w5 (w5.alloc (.cells #[.int .i64 pw, .slice q5 ps.length c5] 31)) := (Below.refl _ _).alloc (Nat.le_refl _) _
            have hbB := hb.trans (hbA.mono hb.size)
            have HS6 := Lib.hid (HS.out.keep hbB)
            have HC6 : Hid (CutAt w5.heap.size pw q5 c5 ps (w5.alloc (.cells #[.int .i64 pw, .slice q5 ps.length c5] 31))) := Lib.hid ⟨TwoAt.new _ _ _ _, hr.over hbA (Nat.le_refl _)⟩
            clear hb hbA hbB hr HPC HS
            go_upto_region 16 with fail
            generalize w5.alloc (.cells #[.int .i64 pw, .slice q5 ps.length c5] 31) = w6 at *
            generalize w5.heap.size = Y at *
            obtain ⟨o0, o1, -, -⟩ := HC6.out.1
            have ol := HC6.out.1.lt
            go_wp2_with fail
            refine (right_true (some ⟨g0, 0, none⟩) N M HNN.out HGG.out (by have := HM.out; omega) pw q5 c5 ps (by have := HSL.out; omega) HF23.out.1 HF23.out.2.1 _ HS6.out.2.1 HC6.out.2).mono ?_
            rintro e w7 ⟨rfl, hb⟩
            have HS7 := Lib.hid (HS6.out.keep hb)
            have HC7 := Lib.hid (HC6.out.keep hb)
            clear o0 o1 ol
            clear hb HS6 HC6
            obtain ⟨o0, o1, -, -⟩ := HC7.out.1
            have ol := HC7.out.1.lt
            have HI1 := Lib.hid (in_any q5 c5 ps (by have := HSL.out; omega) (s : Int) w7 HC7.out.2)
            have HI2 := Lib.hid (in_any q5 c5 ps (by have := HSL.out; omega) (t : Int) w7 HC7.out.2)
            rw [HF23.out.2.2.1] at HI1
            rw [HF23.out.2.2.2] at HI2
            go_wp2_with fail
            refine HI1.out.mono ?_
            rintro e w8 ⟨rfl, rfl⟩
            go_wp2_with fail
            refine HI2.out.mono ?_
            rintro e w9 ⟨rfl, rfl⟩
            by_cases hup : b < 0 ∨ pw < b
            · have HBI2 := Lib.hid (TAKE.out hup)
              by_cases hb0 : b < 0
              · clear TAKE STAY HBI hup
                go_wp2
                go_roundw
                case rel => exact ⟨t + 1, pw, rfl, by go_num, htn, HBI2, HS7⟩
                case measure => simp [intOf]; omega
              · have hb1 : pw < b := by omega
                clear TAKE STAY HBI hup
                go_wp2
                go_roundw
                case rel => exact ⟨t + 1, pw, rfl, by go_num, htn, HBI2, HS7⟩
                case measure => simp [intOf]; omega
            · have hb0 : ¬ b < 0 := by omega
              have hb1 : ¬ pw < b := by omega
              have HBI2 := Lib.hid (STAY.out (by omega) (by omega))
              clear TAKE STAY HBI hup
              go_wp2
              go_roundw
              case rel => exact ⟨t + 1, b, rfl, by go_num, htn, HBI2, HS7⟩
              case measure => simp [intOf]; omega
        · have i3 : ¬ (t : Int) < (N : Int) := by omega
          have hte : t = N := by omega
          have HBI2 : Hid (BestI N M (s + 1) 0 b) := Lib.hid (by
            have h := HBI.out
            rw [hte] at h
            exact h.row)
          clear HBI
          go_wp2
          go_roundw
          case rel => exact ⟨s + 1, b, rfl, by go_num, hlt, HBI2, HS⟩
          case measure => simp [intOf]; omega
    · have i2 : ¬ (s : Int) < (N : Int) := by omega
      have hse : s = N := by omega
      have HBL : Hid (b = lw) := Lib.hid (HALL.out b (by
        have h := HBI.out
        rw [hse] at h
        exact h))
      obtain rfl := HBL.out
      have bb : (b == b) = true := beq_self_eq_true _
      obtain ⟨o0, o1, -, -⟩ := HS.out.2.2.1
      have ol := HS.out.2.2.1.lt
      clear HBI
      go_wp2_with fail
      refine (right_true (some ⟨g0, 0, none⟩) N M HNN.out HGG.out (by have := HM.out; omega) b q2 c2 ls (by have := HLS.out.2.2; omega) HLS.out.1 HLS.out.2.1 _ HS.out.2.1 HS.out.2.2.2).mono ?_
      rintro e w8 ⟨rfl, hb8⟩
      have HB8 := Lib.hid (HS.out.1.trans (hb8.mono HS.out.1.size))
      clear hb8
      go_wp2_with fail
      refine (awake_any _ (tab_on HTab.out (by first | exact Below.refl _ _ | exact HB8.out | exact HB8.out.1 | exact HB8.out.1.1 | exact HB9.out | exact HB9.out.1 | exact HB9.out.1.1 | exact HBL.out | exact HBL.out.1 | exact HBL.out.1.1 | exact HE0.out | exact HE0.out.1 | exact HE0.out.1.1 | exact HE1.out | exact HE1.out.1 | exact HE1.out.1.1 | exact HE2.out | exact HE2.out.1 | exact HE2.out.1.1 | exact HS.out | exact HS.out.1 | exact HS.out.1.1 | exact HS0.out | exact HS0.out.1 | exact HS0.out.1.1 | exact HS6.out | exact HS6.out.1 | exact HS6.out.1.1 | exact HS7.out | exact HS7.out.1 | exact HS7.out.1.1) (Nat.le_refl _))).mono ?_
      rintro e w9 ⟨rfl, hb9⟩
      have HB9 := Lib.hid (HB8.out.trans (hb9.mono HB8.out.size))
      clear hb9
      go_wp2
      go_ret
      exact ⟨rfl, HB9.out⟩
theorem laidOut : laidOutB Tryd.prog = true := by kernel_rfl
set_option maxRecDepth 100000 in
theorem lifted (os : Os) (started : os.Started) (H : Type) (enc : TypeId × Value → H) :
    ReturnsInHanded {} Tryd.checked os 4 .any (fun w args => (Rows.bruteShareSpec.pre enc Tryd.prog Tryd.f4 [] false w args ∧ laidMetH Tryd.prog Rows.brutePairsRow.laid w) ∧ sizedMet enc Tryd.prog Tryd.f4 (OpenSpec.ofChange Rows.bruteShareSpec) false w args)
      (Rows.bruteShareSpec.post enc Tryd.prog Tryd.f4 false true false false) := by
  refine returnsInHanded_of_change_and (C := Tryd.checked) (X := fun w _ => laidMetH Tryd.prog Rows.brutePairsRow.laid w) (fun _ _ _ hh h => h.of_heap hh) own started (by kernel_rfl) Tryd.func4
    (ChangeSpec.witness_at (enc := enc) (C := Tryd.checked) (os := os) (X := fun w _ => laidMetH Tryd.prog Rows.brutePairsRow.laid w) false (laidWorld Tryd.prog os) #[.int .u8 0, .slice none 0 0] 8 rfl (by kernel_rfl) (by kernel_rfl) (by kernel_rfl) (by kernel_rfl) (by kernel_rfl) (laid_met os _)) ?_
  intro W base args ds gs before hval0 hW _ _ hL _
  have hval : ∀ (j : Nat) t v, Tryd.f4.params[j]? = some t → args[j]? = some v → Value.okWide Tryd.prog W .any base t v := hval0
  have hW' := hW
  obtain ⟨p, q, hA0, hV, rfl, hfz, hnd⟩ := hW
  have hA : DataW.TrodAll enc Tryd.prog W 0 (fun _ => true) true Tryd.f4.params.toList args.toList ds p := hA0
  rw [Tryd.params4] at hA hval
  obtain ⟨v0, vs0, d0, ds0, p0, q0, hargs, rfl, rfl, h0, r0⟩ := trodAll_cons hA
  obtain ⟨v1, vs1, d1, ds1, p1, q1, rfl, rfl, rfl, h1, r1⟩ := trodAll_cons r0
  obtain ⟨rfl, rfl, rfl⟩ := trodAll_nil r1
  obtain rfl : args = #[v0, v1] := by cases args; simp_all
  obtain ⟨rfl, rfl⟩ := trodVars_none hV
  obtain ⟨a0, rfl, rfl, rfl, w0⟩ := open_int Tryd.underlying5 (hval 0 5 v0 rfl rfl) h0
  obtain ⟨a1, len1, cap1, rfl⟩ := okWide_slice Tryd.underlying22 (hval 1 22 v1 rfl rfl)
  have k1 := h1
  have lt1 : ∀ x ∈ p1, x.block < W.heap.size := by obtain ⟨m, hm⟩ := k1; exact DataW.trod_lt m _ _ _ hm
  obtain ⟨l1, hlen1, w1⟩ : ∃ l : List Ed, l.length = len1 ∧ EdIn W a1 l ∧ l.length ≤ maxLen := by
    obtain ⟨fuel, hf⟩ := h1
    exact open_edges hf
  subst hlen1
  clear hA0 hval0
  refine (walk_list a0 w0 a1 cap1 l1 W w1.1 w1.2 (tab_of_laid hL)).mono fun e W' ⟨he, bel⟩ => ?_
  subst he
  exact ⟨_, rfl, _, _, _, [], _, [], hW', trodAll_mk1 (shut_bool Tryd.underlying4 _), (trodAll_cons_mk (shut_int Tryd.underlying5 w0) (trodAll_cons_mk (Below.trod laidOut (by kernel_rfl) (of_decide_eq_true (by kernel_rfl)) k1 bel lt1) trodAll_mk0)), rfl, bel.frame _, fun h => by cases h⟩
theorem over : Rows.bruteShareRow.holds Tryd.pinned (OpenSpec.ofChange Rows.bruteShareSpec) :=
  OpenClaim.holds_of_wide 4 Tryd.f4 rfl rfl rfl rfl rfl rfl rfl ⟨rfl, rfl, rfl, rfl, rfl⟩ rfl rfl rfl rfl rfl (by kernel_rfl) Tryd.func4 (by kernel_rfl)
    (of_decide_eq_true (by kernel_rfl)) (by unfold Func.isWrapper; first | (rw [if_pos (by decide +kernel)]; kernel_rfl) | (rw [if_neg (by decide +kernel)]; exact ⟨rfl, rfl⟩))
    (fun os started H enc _ => lifted os started H enc)
/-- The statement: the tied card. -/
theorem proved : Rows.BruteShareCardSaid :=
  Claim7.holds_tied_plain_at .later [] [.data] true Rows.bruteShareCard.stood.harness Rows.bruteShareCard.stood.looks
    over (fun _ h => by cases h) (by kernel_rfl) (fun _ h => by cases h) bruteShare_row_tie rfl ⟨rfl, rfl⟩ (by kernel_rfl) rfl
    (fun f fn hf hfn => by
      obtain rfl : f = 4 := Option.some.inj ((show Tryd.prog.funcNamed Rows.bruteShareRow.func = some 4 by kernel_rfl).symm.trans hf) |>.symm
      obtain rfl : fn = Tryd.f4 := (Option.some.inj (Tryd.func4.symm.trans hfn)).symm
      exact ⟨by kernel_rfl, fun j t ht => by
        rw [Tryd.params4] at ht
        have hall : ∀ t ∈ #[5, 22], Tryd.prog.wantsStandIn t = false := by decide +kernel
        exact hall t (Array.mem_of_getElem? ht)⟩)
    (by kernel_rfl)
#print axioms proved

end Go.Proofs.YtceejjgmepaonaaDoor.bruteShare
