/- Texts that the laws of this seat stand on, part 26. -/
import Derived.Test.YtbankocbncpepaaPk25
import Derived.Test.YtbankocbncpepaaPk12
import Derived.Test.YtbankocbncpepaaPk15
import Derived.Deep.RegionWith
/- The law's awake (layer 21). -/
namespace Go.Proofs.Ytbankocbncpepaa.Sd
open Go.RowKit Go.ChangeShapes EdPure NtPure CutPure SdPure Cm
abbrev awL : List Ed := [(0, 1, 2), (1, 2, 3)]
theorem aw_merge : mergeE awL = some awL := by decide
theorem aw_err : errN 3 awL = (0, 0) := by decide
theorem aw_in : InL awL := by
  intro e he
  rcases List.mem_cons.1 he with rfl | h
  · unfold InE In; simp
  · rw [List.mem_singleton.1 h]; unfold InE In; simp
theorem aw_facts : chkS 3 [1] = 0 ∧ cutW awL (inS [1]) = 5 ∧ chkS 3 [0, 2] = 0 ∧ normL 3 [0, 2] = [1] ∧ chkS 3 [0] = 0 ∧ cutW awL (inS [0]) = 2 ∧ partsB 3 [1] 1 2 = true := by decide
theorem lit_one (w : World) (x : Int) (T : TypeId) : Below w.heap.size w (w.alloc (.cells #[.int .i64 x] T)) ∧ ReadsL encZ (w.alloc (.cells #[.int .i64 x] T)).heap.size (w.alloc (.cells #[.int .i64 x] T)) (some ⟨w.heap.size, 0, none⟩) [x] := by
  refine ⟨(Below.refl _ _).alloc (Nat.le_refl _) _, Or.inr ⟨w.heap.size, 0, rfl, by simp, fun i hi => ?_⟩⟩
  match i, hi with
  | 0, _ => simp [encZ]
theorem lit_two (w : World) (x y : Int) (T : TypeId) : Below w.heap.size w (w.alloc (.cells #[.int .i64 x, .int .i64 y] T)) ∧ ReadsL encZ (w.alloc (.cells #[.int .i64 x, .int .i64 y] T)).heap.size (w.alloc (.cells #[.int .i64 x, .int .i64 y] T)) (some ⟨w.heap.size, 0, none⟩) [x, y] := by
  refine ⟨(Below.refl _ _).alloc (Nat.le_refl _) _, Or.inr ⟨w.heap.size, 0, rfl, by simp, fun i hi => ?_⟩⟩
  match i, hi with
  | 0, _ => simp [encZ]
  | 1, _ => simp [encZ]
set_option maxRecDepth 100000 in
set_option maxHeartbeats 1600000 in
theorem awake_any (w : World) : Calls Try.prog 6 #[] w fun e w' => e = .returned (.bool true) ∧ Below w.heap.size w w' := by
  have hb0 : Below w.heap.size w (w.alloc (.cells #[.int .i64 0, .int .i64 1, .int .i64 2, .int .i64 1, .int .i64 2, .int .i64 3] 58)) := (Below.refl _ _).alloc (Nat.le_refl _) _
  have hR : ReadsE (w.alloc (.cells #[.int .i64 0, .int .i64 1, .int .i64 2, .int .i64 1, .int .i64 2, .int .i64 3] 58)).heap.size (w.alloc (.cells #[.int .i64 0, .int .i64 1, .int .i64 2, .int .i64 1, .int .i64 2, .int .i64 3] 58)) (some ⟨w.heap.size, 0, none⟩) awL := by
    refine Or.inr ⟨w.heap.size, 0, rfl, by simp, fun i hi => ?_⟩
    match i, hi with
    | 0, _ => simp
    | 1, _ => simp
  have HM := Lib.hid (newNet_any 3 _ 2 _ aw_in _ hR)
  have HB := Lib.hid hb0
  have HF := Lib.hid aw_facts
  clear hR hb0
  go_enter Try.func6, Try.ntmps6
  go_wp2_with fail
  refine HM.out.mono ?_
  rintro e w1 ⟨hb1, ⟨hn, -⟩ | ⟨-, N, M, g0, hN, hN4, hg, -, -, hA, rfl, hn⟩⟩
  · rw [aw_err] at hn; exact absurd rfl hn
  obtain rfl := Option.some.inj (aw_merge.symm.trans hA)
  obtain rfl : N = 3 := by omega
  replace HB := Lib.hid (HB.out.trans (hb1.mono HB.out.size))
  have HG := Lib.hid hg
  have HN := Lib.hid hn
  clear hb1 hA hg hn HM hN
  go_wp2_with fail
  obtain ⟨l1, l2⟩ := lit_one w1 1 3
  replace HB := Lib.hid (HB.out.trans (l1.mono HB.out.size))
  replace HN := Lib.hid (HN.out.over l1)
  refine (sideWeight_any _ 3 _ (by omega) HG.out (by simp) _ 1 [1] (by simp) _ HN.out l2).mono ?_
  rw [show chkS ((3 : Nat) : Int) [1] = 0 from HF.out.1, if_pos rfl, HF.out.2.1]
  rintro e w2 ⟨rfl, hb2⟩
  replace HB := Lib.hid (HB.out.trans (hb2.mono HB.out.size))
  replace HN := Lib.hid (HN.out.over hb2)
  clear hb2 l1 l2
  go_wp2_with fail
  obtain ⟨l1, l2⟩ := lit_two w2 0 2 3
  replace HB := Lib.hid (HB.out.trans (l1.mono HB.out.size))
  replace HN := Lib.hid (HN.out.over l1)
  refine (sideNormal_any 3 (by omega) _ 2 [0, 2] (by simp) (by simp) _ l2).mono ?_
  rw [show chkS ((3 : Nat) : Int) [0, 2] = 0 from HF.out.2.2.1, if_pos rfl, show normL ((3 : Nat) : Int) [0, 2] = [1] from HF.out.2.2.2.1]
  rintro e w3 ⟨hb3, q3, c3, rfl, hr3⟩
  replace HB := Lib.hid (HB.out.trans (hb3.mono HB.out.size))
  replace HN := Lib.hid (HN.out.over hb3)
  have HR3 := Lib.hid hr3
  clear hb3 hr3 l1 l2
  go_wp2_with fail
  obtain ⟨l1, l2⟩ := lit_one w3 1 3
  replace HB := Lib.hid (HB.out.trans (l1.mono HB.out.size))
  replace HN := Lib.hid (HN.out.over l1)
  have HI := Lib.hid (ints_any q3 _ c3 1 [1] [1] _ (HR3.out.over l1 (Nat.le_refl _)) l2 (by simp))
  rw [show decide (([1] : List Int) = [1]) = true from rfl] at HI
  refine HI.out.mono ?_
  rintro e w4 ⟨rfl, m4, rfl⟩
  have hb4 : Below (w3.alloc (.cells #[.int .i64 1] 3)).heap.size (w3.alloc (.cells #[.int .i64 1] 3)) ((w3.alloc (.cells #[.int .i64 1] 3)).drewN m4) := below_drewN (Below.refl _ _) m4
  replace HB := Lib.hid (HB.out.trans (hb4.mono HB.out.size))
  replace HN := Lib.hid (HN.out.over hb4)
  clear hb4 l1 l2 HI HR3
  generalize (w3.alloc (.cells #[.int .i64 1] 3)).drewN m4 = w4 at *
  go_wp2_with fail
  obtain ⟨l1, l2⟩ := lit_one w4 0 3
  replace HB := Lib.hid (HB.out.trans (l1.mono HB.out.size))
  replace HN := Lib.hid (HN.out.over l1)
  refine (sideRight_any _ 3 _ (by omega) HG.out (by simp) 2 _ 1 [0] (by simp) _ HN.out l2).mono ?_
  rw [show chkS ((3 : Nat) : Int) [0] = 0 from HF.out.2.2.2.2.1, HF.out.2.2.2.2.2.1]
  rintro e w5 ⟨rfl, hb5⟩
  rw [show (decide ((0 : Int) = 0) && decide ((2 : Int) = 2)) = true from rfl]
  replace HB := Lib.hid (HB.out.trans (hb5.mono HB.out.size))
  replace HN := Lib.hid (HN.out.over hb5)
  clear hb5 l1 l2
  go_wp2_with fail
  obtain ⟨l1, l2⟩ := lit_one w5 1 3
  replace HB := Lib.hid (HB.out.trans (l1.mono HB.out.size))
  refine (sideParts_any 3 _ 1 [1] (by simp) 1 2 _ l2).mono ?_
  rw [HF.out.2.2.2.2.2.2]
  rintro e w6 ⟨rfl, hb6⟩
  replace HB := Lib.hid (HB.out.trans (hb6.mono HB.out.size))
  clear hb6 l1 l2
  go_wp2
  go_ret
  exact ⟨rfl, HB.out⟩
end Go.Proofs.Ytbankocbncpepaa.Sd
/- The document's Crossing, Weight, Other and Normal (layer 21). -/
namespace Go.Proofs.Ytbankocbncpepaa.Sd
open Go.RowKit Go.ChangeShapes EdPure NtPure CutPure SdPure Cm
set_option maxRecDepth 100000 in
set_option maxHeartbeats 2000000 in
theorem refCrossing_any (n : Int) (a : Option Addr) (c : Nat) (M : List Ed) (hm : M.length ≤ 100000) (b : Option Addr) (d : Nat) (l : List Int) (hl : l.length ≤ 1000000000) (w : World) (hR : ReadsE w.heap.size w a M) (hS : ReadsL encZ w.heap.size w b l) :
    Calls Try.prog 18 #[.agg #[.int .i64 n, .slice a M.length c], .slice b l.length d] w fun e w' => IntsOf (crossL M (inS l) M.length) w e w' := by
  have HB0 : Hid (BoxSt w w.heap.size n a c M (w.alloc (.cells #[.int .i64 n, .slice a M.length c] 36))) := Lib.hid (BoxSt.start hR)
  have HS0 : Hid (ReadsL encZ (w.alloc (.cells #[.int .i64 n, .slice a M.length c] 36)).heap.size (w.alloc (.cells #[.int .i64 n, .slice a M.length c] 36)) b l) := Lib.hid (hS.over ((Below.refl _ _).alloc (Nat.le_refl _) _) (Nat.le_refl _))
  obtain ⟨ti, hi1, hi2, hi3, hi4⟩ := info_int
  clear hR hS
  go_enter Try.func18, Try.ntmps18
  go_wp2_with fail
  generalize w.alloc (.cells #[.int .i64 n, .slice a M.length c] 36) = W0 at *
  generalize w.heap.size = X at *
  go_loopw [5, 6] (fun s i wr => ∃ (k : Nat) (v : Value), v = s ∧ i = .int .i64 k ∧ k ≤ M.length ∧ Hid (GrowRel encZ 3 W0 (crossL M (inS l) k) v wr)) (fun _ i _ => M.length - (intOf i).toNat)
  case atStart => exact ⟨0, _, rfl, rfl, Nat.zero_le _, Lib.hid (GrowRel.start _ _ _)⟩
  case round =>
    obtain ⟨k, v, rfl, rfl, hk, HK⟩ := hrel
    have HB := Lib.hid (HB0.out.keep HK.out.1)
    have HSr := Lib.hid (HS0.out.over HK.out.1 (Nat.le_refl _))
    obtain ⟨d0, d1, -, -⟩ := HB.out.2.1
    have dl := HB.out.2.1.lt
    by_cases hlt : k < M.length
    · have i1 : (k : Int) < (M.length : Int) := by omega
      obtain ⟨x, y, z, he⟩ : ∃ x y z, M[k] = (x, y, z) := ⟨_, _, _, rfl⟩
      obtain ⟨b1, off, rfl, -, hbr, c0, c1, c2⟩ := HB.out.2.2.cells hlt (Below.refl _ _) he
      have hcr := cross_succ (inS l) hlt
      rw [he] at hcr
      have HCR := Lib.hid hcr
      have hlen := cross_len M (inS l) hk
      have hsz := HK.out.1.size
      clear hcr he
      have HI := Lib.hid (fun v W h => in_any b d l hl v W h)
      have hcb : crossB (inS l) (x, y, z) = (inS l x != inS l y) := rfl
      rw [hcb] at HCR
      clear hcb
      by_cases hc : inS l x = inS l y
      · have t : (!inS l x == inS l y) = false := by simpa using hc
        have HX : Hid (crossL M (inS l) (k + 1) = crossL M (inS l) k) := Lib.hid (by rw [HCR.out, if_neg (by simpa using hc), List.append_nil])
        go_wp2
        go_quiet (first | (go_at_call 33; exact Calls.quiet_of_same (HI.out _ _ HSr.out)))
        have HK2 := Lib.hid (HK.out.on (below_drewN (Below.refl _ _) nq))
        clear HK
        go_wp2
        go_roundw
        case rel => exact ⟨k + 1, v, rfl, by go_num, hlt, by rw [HX.out]; exact HK2⟩
        case measure => simp [intOf]; omega
      · have HX : Hid (crossL M (inS l) (k + 1) = crossL M (inS l) k ++ [(k : Int)]) := Lib.hid (by rw [HCR.out, if_pos (by simpa using hc)])
        have t : (!inS l x == inS l y) = true := by simpa using hc
        go_wp2
        go_quiet (first | (go_at_call 33; exact Calls.quiet_of_same (HI.out _ _ HSr.out)))
        have HK2 := Lib.hid (HK.out.on (below_drewN (Below.refl _ _) nq))
        clear HK hlen
        have hlen := cross_len M (inS l) hk
        generalize crossL M (inS l) k = xs at *
        have hsz2 : W0.heap.size ≤ (wr.drewN nq).heap.size := HK2.out.1.size
        generalize wr.drewN nq = V at *
        go_wp2_with (first
          | (at_builtin; refine wpList_append_own _ rfl _ _ 23 rfl W0.heap.size 3 ti (.int .i64 0) 1 8 Try.underlying23 hi1 hi2 hi3 hi4 rfl (by decide) v xs.length (xs.map encZ) rfl (HK2.out.2.alloc _) ⟨V.heap.size, 0, none⟩ 1 1 [.int .i64 (k : Int)] rfl rfl one_news (by intro u hu; simp at hu; subst hu; rfl) (by unfold maxLen; omega) (by omega) (by simp; omega) ?_; intro v' w6 hown6 hg6 _; have hst := HK2.out.step (k : Int) hown6 hg6; rw [← HX.out] at hst; have HS6 := Lib.hid hst; clear hst hown6 hg6))
        go_roundw
        case rel => exact ⟨k + 1, v', rfl, by go_num, hlt, HS6⟩
        case measure => simp [intOf]; omega
    · obtain rfl : k = M.length := by omega
      obtain ⟨p, cp, rfl, hr, -⟩ := HK.out.reads
      have HR := Lib.hid hr
      have HBB := Lib.hid (HB0.out.1.trans (HK.out.1.mono HB0.out.1.size))
      clear hr HK HB
      go_wp2
      go_ret
      exact ⟨HBB.out, p, cp, rfl, HR.out⟩
set_option maxRecDepth 100000 in
set_option maxHeartbeats 2000000 in
theorem refWeight_any (n : Int) (a : Option Addr) (c : Nat) (M : List Ed) (hm : M.length ≤ 100000) (hn : NonNeg M) (ha : allW M ≤ 2251799813685248) (b : Option Addr) (d : Nat) (l : List Int) (hl : l.length ≤ 1000000000) (w : World) (hR : ReadsE w.heap.size w a M) (hS : ReadsL encZ w.heap.size w b l) :
    Calls Try.prog 16 #[.agg #[.int .i64 n, .slice a M.length c], .slice b l.length d] w fun e w' => e = .returned (.int .i64 (cutW M (inS l))) ∧ Below w.heap.size w w' := by
  have HB0 : Hid (BoxSt w w.heap.size n a c M (w.alloc (.cells #[.int .i64 n, .slice a M.length c] 36))) := Lib.hid (BoxSt.start hR)
  have HS0 : Hid (ReadsL encZ (w.alloc (.cells #[.int .i64 n, .slice a M.length c] 36)).heap.size (w.alloc (.cells #[.int .i64 n, .slice a M.length c] 36)) b l) := Lib.hid (hS.over ((Below.refl _ _).alloc (Nat.le_refl _) _) (Nat.le_refl _))
  have HW : Hid (wtL M (crossL M (inS l) M.length) = cutW M (inS l)) := Lib.hid (wt_all (inS l))
  have HMem : Hid (∀ x ∈ crossL M (inS l) M.length, 0 ≤ x ∧ x < M.length) := Lib.hid (fun x hx => cross_mem (Nat.le_refl _) hx)
  have HLen : Hid ((crossL M (inS l) M.length).length ≤ M.length) := Lib.hid (cross_len M (inS l) (Nat.le_refl _))
  have HPart : Hid (∀ k, 0 ≤ wtL M ((crossL M (inS l) M.length).take k) ∧ wtL M ((crossL M (inS l) M.length).take k) ≤ 2251799813685248) := Lib.hid (fun k => by
    have hnn : ∀ x, 0 ≤ wtN M x := fun x => by
      unfold wtN
      rw [List.getD_eq_getElem?_getD]
      cases hx : M[x.toNat]? with
      | none => simp
      | some e => exact hn e (List.mem_of_getElem? hx)
    have hpos : ∀ c : List Int, 0 ≤ wtL M c := fun c => by
      induction c with
      | nil => exact Int.le_refl _
      | cons x c ih => have := hnn x; have e : wtL M (x :: c) = wtN M x + wtL M c := by unfold wtL; simp
                       omega
    refine ⟨hpos _, ?_⟩
    have h1 : wtL M (crossL M (inS l) M.length) = wtL M ((crossL M (inS l) M.length).take k) + wtL M ((crossL M (inS l) M.length).drop k) := by
      conv => lhs; rw [← List.take_append_drop k (crossL M (inS l) M.length)]
      unfold wtL
      rw [List.map_append, List.sum_append]
    have h2 := hpos ((crossL M (inS l) M.length).drop k)
    have h3 := cut_le_all hn (inS l)
    have h4 := wt_all (M := M) (inS l)
    omega)
  clear hR hS
  go_enter Try.func16, Try.ntmps16
  go_wp2_with fail
  generalize w.alloc (.cells #[.int .i64 n, .slice a M.length c] 36) = W0 at *
  generalize w.heap.size = X at *
  obtain ⟨d0, d1, -, -⟩ := HB0.out.2.1
  have dl := HB0.out.2.1.lt
  go_wp2_with fail
  refine (refCrossing_any n a c M hm b d l hl W0 HB0.out.2.2 HS0.out).mono ?_
  rintro e w1 ⟨hb1, q, cq, rfl, hr1⟩
  have HB := Lib.hid (HB0.out.keep hb1)
  have HR := Lib.hid hr1
  clear hb1 hr1 d0 d1 dl HB0 HS0
  generalize crossL M (inS l) M.length = xs at *
  obtain ⟨d0, d1, -, -⟩ := HB.out.2.1
  have dl := HB.out.2.1.lt
  go_wp2
  go_loopw [5, 7] (fun s i wr => ∃ (k m : Nat) (S : Int), s = .int .i64 S ∧ i = .int .i64 k ∧ k ≤ xs.length ∧ Hid (S = wtL M (xs.take k)) ∧ wr = w1.drewN m) (fun _ i _ => xs.length - (intOf i).toNat)
  case atStart => exact ⟨0, 0, 0, rfl, rfl, Nat.zero_le _, Lib.hid rfl, rfl⟩
  case round =>
    obtain ⟨k, m, S, rfl, rfl, hk, HK, rfl⟩ := hrel
    have hlen := HLen.out
    by_cases hlt : k < xs.length
    · have i1 : (k : Int) < (xs.length : Int) := by omega
      have i0 : (0 : Int) ≤ (k : Int) := by omega
      obtain ⟨b1, off, rfl, hbr, c0⟩ := HR.out.at hlt
      obtain ⟨x0, x1⟩ := HMem.out xs[k] (List.getElem_mem hlt)
      have hT := take_one hlt
      have hp1 := HPart.out (k + 1)
      have hp0 := HPart.out k
      rw [← HK.out] at hp0
      rw [hT, wt_snoc, ← HK.out] at hp1
      have hS2 : S + wtN M xs[k] = wtL M (xs.take (k + 1)) := by rw [hT, wt_snoc, ← HK.out]
      clear hT
      generalize xs[k] = x at *
      obtain ⟨j, rfl⟩ : ∃ j : Nat, x = (j : Int) := ⟨x.toNat, by omega⟩
      have hj : j < M.length := by omega
      obtain ⟨u, v, z, he⟩ : ∃ u v z, M[j] = (u, v, z) := ⟨_, _, _, rfl⟩
      obtain ⟨b2, off2, rfl, -, hbr2, g0, g1, g2⟩ := HB.out.2.2.cells hj (Below.refl _ _) he
      have hwt : wtN M (j : Int) = z := by unfold wtN; rw [List.getD_eq_getElem?_getD, Int.toNat_natCast, List.getElem?_eq_getElem hj, he]; rfl
      rw [hwt] at hS2 hp1
      unfold encZ at c0
      have e1 : IntKind.i64.wrap (S + z) = S + z := IntWalk.i64_in _ (by omega)
      have HN := Lib.hid hS2
      clear hS2 hwt he hj
      go_wp2
      go_quiet (fail)
      go_wp2
      go_roundw
      case rel => exact ⟨k + 1, _, S + z, rfl, by go_num, hlt, HN, rfl⟩
      case measure => simp [intOf]; omega
    · have hkl : k = xs.length := by omega
      have HX : Hid (S = cutW M (inS l)) := Lib.hid (by have := HK.out; rw [hkl, List.take_length] at this; rw [this]; exact HW.out)
      have HBB := Lib.hid (below_drewN HB.out.1 m)
      clear hkl
      go_wp2
      go_ret
      exact ⟨ret_i HX.out, HBB.out⟩
end Go.Proofs.Ytbankocbncpepaa.Sd
/- Contracts of the document's Add and Sum of layer 1 (cut out of XNumRef: a later stage's reference that adds takes this text). -/
namespace Go.Proofs.Ytbankocbncpepaa
open Go.RowKit Go.ChangeShapes NumPure
theorem refAdd_any (a b : Int) (ha : -9223372036854775808 ≤ a ∧ a ≤ 9223372036854775807) (hb : -9223372036854775808 ≤ b ∧ b ≤ 9223372036854775807) (w : World) :
    Calls Try.prog 64 #[.int .i64 a, .int .i64 b] w fun e w' => e = .returned (.agg #[.int .i64 (cut (a + b)), .bool (fitsB (a + b))]) ∧ Below w.heap.size w w' := by
  obtain ⟨ha1, ha2⟩ := ha
  obtain ⟨hb1, hb2⟩ := hb
  by_cases h : -9223372036854775808 ≤ a + b ∧ a + b ≤ 9223372036854775807
  · have e1 := Lib.hid (cut_in h)
    have e2 := Lib.hid ((fits_iff _).2 h)
    obtain ⟨h1, h2⟩ := h
    by_cases h0 : 0 ≤ b
    · go_enter Try.func64, Try.ntmps64
      go_wp2
      refine bodyPost_ret (v := .agg #[.int .i64 (a + b), .bool true]) (by simp [results, Try.results64, go_sem]) rfl ⟨agg_ib e1.out.symm e2.out.symm, (Below.refl _ _).alloc (Nat.le_refl _) _⟩
    · go_enter Try.func64, Try.ntmps64
      go_wp2
      refine bodyPost_ret (v := .agg #[.int .i64 (a + b), .bool true]) (by simp [results, Try.results64, go_sem]) rfl ⟨agg_ib e1.out.symm e2.out.symm, (Below.refl _ _).alloc (Nat.le_refl _) _⟩
  · have e1 := Lib.hid (cut_out h)
    have e2 := Lib.hid ((fits_not _).2 h)
    by_cases h0 : 0 ≤ b
    · have h3 := wrap_add_up a b ha2 h0 hb2 (by omega)
      clear h
      go_enter Try.func64, Try.ntmps64
      go_wp2
      refine bodyPost_ret (v := .agg #[.int .i64 0, .bool false]) (by simp [results, Try.results64, go_sem]) rfl ⟨agg_ib e1.out.symm e2.out.symm, (Below.refl _ _).alloc (Nat.le_refl _) _⟩
    · have h3 := wrap_add_down a b ha1 (by omega) hb1 (by omega)
      clear h
      go_enter Try.func64, Try.ntmps64
      go_wp2
      refine bodyPost_ret (v := .agg #[.int .i64 0, .bool false]) (by simp [results, Try.results64, go_sem]) rfl ⟨agg_ib e1.out.symm e2.out.symm, (Below.refl _ _).alloc (Nat.le_refl _) _⟩
/-- The document's sum, number by number. -/
def RefAt (M : Nat) (w : World) (p : Int × Bool) : Prop :=
  w.cell? ⟨M, 0, none⟩ = some (.int .i64 p.1) ∧ w.cell? ⟨M, 1, none⟩ = some (.bool p.2) ∧ w.frozen? ⟨M, 0, none⟩ = false ∧ w.frozen? ⟨M, 1, none⟩ = false
theorem RefAt.on {M : Nat} {w w' : World} {p : Int × Bool} (h : RefAt M w p) (hb : Below (M + 1) w w') : RefAt M w' p := by
  obtain ⟨h0, h1, f0, f1⟩ := h
  exact ⟨(hb.cell (by simp)).trans h0, (hb.cell (by simp)).trans h1, (hb.frozen (by simp)).trans f0, (hb.frozen (by simp)).trans f1⟩
theorem RefAt.set {N : Nat} {w : World} {p : Int × Bool} (h : RefAt N w p) (q : Int × Bool) : RefAt N ((w.setCell ⟨N, 0, none⟩ (.int .i64 q.1)).setCell ⟨N, 1, none⟩ (.bool q.2)) q := by
  obtain ⟨h0, h1, f0, f1⟩ := h
  have h1' : (w.setCell ⟨N, 0, none⟩ (.int .i64 q.1)).cell? ⟨N, 1, none⟩ = some (.bool p.2) := (World.cell?_setCell_other w ⟨N, 0, none⟩ ⟨N, 1, none⟩ _ (by simp)).trans h1
  refine ⟨(World.cell?_setCell_other _ ⟨N, 1, none⟩ ⟨N, 0, none⟩ _ (by simp)).trans (World.cell?_setCell_same _ _ _ h0), World.cell?_setCell_same _ _ _ h1', ?_, ?_⟩
  · simpa using f0
  · simpa using f1
theorem RefAt.lt {M : Nat} {w : World} {p : Int × Bool} (h : RefAt M w p) : M < w.heap.size := by
  exact World.block_lt_of_cell? w _ h.1
def RefRel (N : Nat) (w : World) (l : List Int) (k : Nat) (wr : World) : Prop := k ≤ l.length ∧ Below (N + 1) w wr ∧ RefAt (N + 1) wr (sumS (l.take k))
end Go.Proofs.Ytbankocbncpepaa
