/- Pairs joined from the last one to the first, each turned round, come to the same classes as joined from the first to the last, in classes of any room; there is as much room as was asked for, as far as there may be; of nil there is nothing. Conditions: none: every room, every slice of pairs, every vertex (of more than sixty pairs the law asks only that the program joins classes at all). -/
import Derived.Test.YtnnicfjlakpghaaDsuOrd
import Derived.Test.YtnnicfjlakpghaaRows
import Derived.Deep.Cut
import Derived.Deep.CutRange
import Derived.Deep.RegionHeld3
import Derived.Carry
import Derived.ProofKit
import Derived.OpenShut
import Derived.ChangeOld
import Derived.Below
namespace Go.Proofs.Ytnnicfjlakpghaa.dsuOrder
open Go.ChangeShapes Go.WideShapes Go.ChangeAt Go.RowKit Go.Maps DsuPure
theorem wrap_small (x : Int) (h0 : -9223372036854775808 ≤ x) (h1 : x ≤ 9223372036854775807) : IntKind.i64.wrap x = x := by rw [IntKind.wrap_i64]; omega
theorem take_both {n k : Nat} {l : List (Int × Int)} {p q : Nat → Nat} (h1 : Stands n (l.take k) p) (h2 : Stands n ((backL l).take k) q) (hk : k < l.length) :
    ∃ j : Nat, ∃ hj : j < l.length, j = l.length - 1 - k ∧ Stands n (l.take (k + 1)) (joinZ n p l[k].1 l[k].2) ∧ Stands n ((backL l).take (k + 1)) (joinZ n q l[j].2 l[j].1) := by
  have hj : l.length - 1 - k < l.length := by omega
  have hb : k < (backL l).length := by rw [backL_len]; exact hk
  refine ⟨_, hj, rfl, ?_, ?_⟩
  · rw [take_snoc l k hk]
    exact stands_join h1 l[k].1 l[k].2
  · rw [take_snoc (backL l) k hb, backL_at hb hj]
    exact stands_join h2 l[l.length - 1 - k].2 l[l.length - 1 - k].1
set_option maxRecDepth 100000 in
set_option maxHeartbeats 8000000 in
theorem walk_list (n : Int) (a : Option Addr) (cap : Nat) (l : List (Int × Int)) (v : Int) (w : World) (hl : ReadsO w.heap.size w a l) (hm : l.length ≤ maxLen) :
    Calls Try.prog 4 #[.int .i64 n, .slice a l.length cap, .int .i64 v] w fun e w' => e = .returned (.bool true) ∧ Below w.heap.size w w' := by
  have HL := Lib.hid hl
  have hm : l.length ≤ 9223372036854775807 := by unfold maxLen at hm; omega
  clear hl
  by_cases h60 : 60 < l.length
  · go_enter Try.func4, Try.ntmps4
    go_wp2_with (first | (go_at_call 5; refine (awake_any _).mono ?_; rintro e w1 ⟨rfl, hb1⟩; have HB := Lib.hid hb1; clear hb1))
    go_ret
    exact ⟨rfl, HB.out⟩
  have hlen : l.length ≤ 60 := by omega
  clear h60 hm
  go_enter Try.func4, Try.ntmps4
  go_wp2_with fail
  refine (new_any n w).mono ?_
  rintro e w1 ⟨b1, g1, m1, rfl, hb1, l1, l2, l3, hc1⟩
  have HC1 := Lib.hid (And.intro hb1 hc1)
  clear hb1 hc1
  go_wp2_with fail
  refine (new_any n w1).mono ?_
  rintro e w2 ⟨b2, g2, m2, rfl, hb2, k1, k2, k3, hc2⟩
  have HP2 := Lib.hid (ord_start HC1.out.1 ⟨l2, l3⟩ HC1.out.2 hb2 k1 k2 k3 hc2)
  clear hb2 HC1 k1 k2 k3 l1 l2 l3 hc2
  have hN4 := roomN_le n
  have HR := Lib.hid (fun w => roomRef_any n w)
  have HS0 : Hid (Stands (roomN n) (l.take 0) (fun x => x) ∧ Stands (roomN n) ((backL l).take 0) (fun x => x)) := Lib.hid ⟨by rw [List.take_zero]; exact stands_start _, by rw [List.take_zero]; exact stands_start _⟩
  generalize roomN n = N at *
  go_wp2_with fail
  go_loopw [9] (fun i wr => ∃ (k : Nat) (p q : Nat → Nat), i = .int .i64 k ∧ k ≤ l.length ∧ Hid (Stands N (l.take k) p ∧ Stands N ((backL l).take k) q) ∧ Hid (OrdAt w b1 g1 m1 b2 g2 m2 N p q wr)) (fun i _ => l.length - (intOf i).toNat)
  case atStart => exact ⟨0, _, _, rfl, Nat.zero_le _, HS0, HP2⟩
  case round =>
    obtain ⟨k, p, q, rfl, hk, HS, HP⟩ := hrel
    clear HP2 HS0
    have i0 : (0 : Int) ≤ (k : Int) := by omega
    by_cases hlt : k < l.length
    · have i1 : (k : Int) < (l.length : Int) := by omega
      obtain ⟨j, hj, hje, hs1, hs2⟩ := take_both HS.out.1 HS.out.2 hlt
      have HS1 := Lib.hid (And.intro hs1 hs2)
      clear hs1 hs2 HS
      obtain ⟨bl, off, rfl, hbN, d0, d1⟩ := HL.out.at HP.out.1 hlt
      have HD : Hid (∀ W, Below w.heap.size w W → W.cell? ⟨bl, off + j * 2, none⟩ = some (.int .i64 l[j].1) ∧ W.cell? ⟨bl, off + j * 2 + 1, none⟩ = some (.int .i64 l[j].2)) := Lib.hid fun W hb => by
        obtain ⟨bl', off', e, -, e0, e1⟩ := HL.out.at hb hj
        cases e
        exact ⟨e0, e1⟩
      have HD0 : Hid (∀ k', (wr.drewN k').cell? ⟨bl, off + k * 2, none⟩ = some (.int .i64 l[k].1) ∧ (wr.drewN k').cell? ⟨bl, off + k * 2 + 1, none⟩ = some (.int .i64 l[k].2)) := Lib.hid fun k' => ⟨d0, d1⟩
      have hj0 : (0 : Int) ≤ (j : Int) := by omega
      have hj1 : (j : Int) < (l.length : Int) := by omega
      have hw1 := wrap_small ((l.length : Int) - 1) (by omega) (by omega)
      have hw2 : IntKind.i64.wrap ((l.length : Int) - 1 - (k : Int)) = (j : Int) := by rw [wrap_small _ (by omega) (by omega)]; omega
      clear hje
      generalize l[k].1 = u1 at *
      generalize l[k].2 = u2 at *
      generalize l[j].1 = t1 at *
      generalize l[j].2 = t2 at *
      go_upto_region 7 with fail
      go_cut [] from 19 to 56 (fun wx => Hid (OrdAt w b1 g1 m1 b2 g2 m2 N (joinZ N p u1 u2) q wx))
      case first =>
        have HPd := Lib.hid (HP.out.keep ((Below.refl _ _).drew))
        go_region_with (go_at_call 11; refine (join_any b1 g1 m1 N p u1 u2 _ HPd.out.2.1).mono ?_; rintro e v1 ⟨rfl, ht1, hc1⟩; have HP1 := Lib.hid (HPd.out.turn1 ht1 hc1); clear ht1 hc1)
        all_goals go_wp2_with fail
        all_goals go_meet
        all_goals exact HP1
      case rest =>
      have HP1 := hcut
      clear hcut HP d0 d1 HD0
      obtain ⟨d0, d1⟩ := HD.out wc HP1.out.1
      go_upto_region 8 with fail
      have HPd := Lib.hid (HP1.out.keep ((Below.refl _ _).drew))
      go_region_with (go_at_call 11; refine (join_any b2 g2 m2 N q t2 t1 _ HPd.out.2.2.1).mono ?_; rintro e v1 ⟨rfl, ht1, hc1⟩; have HP3 := Lib.hid (HPd.out.turn2 ht1 hc1); clear ht1 hc1 HPd HP1 d0 d1)
      all_goals go_wp2_with fail
      all_goals go_roundw
      all_goals first
        | exact ⟨k + 1, _, _, by go_num, by omega, HS1, HP3⟩
        | (simp [intOf] <;> omega)
    · have hge : ¬ (k : Int) < (l.length : Int) := by omega
      have hpq : p = q := by
        have h1 := HS.out.1
        have h2 := HS.out.2
        rw [List.take_of_length_le (by omega)] at h1
        rw [List.take_of_length_le (by rw [backL_len]; omega)] at h2
        exact stands_same h1 h2
      subst hpq
      obtain ⟨W1, hW1⟩ : ∃ W1, W1 = wr := ⟨_, rfl⟩
      subst hW1
      clear HL HS
      have HLn := Lib.hid (listsP_len N p)
      have HLe : Hid (∀ r ∈ listsP N p, r.length ≤ 1000000) := Lib.hid fun r hr => by
        unfold listsP at hr
        obtain ⟨x, -, rfl⟩ := List.mem_map.1 hr
        have := rowL_le N p x
        omega
      have hLl : (listsP N p).length ≤ 1000000 := by rw [HLn.out]; have := rootsN_le N p; omega
      generalize hLL : listsP N p = LL at *
      obtain ⟨Z, hZ⟩ : ∃ Z, ofZ N p v = Z := ⟨_, rfl⟩
      have HZ := Lib.hid hZ
      have HLLh := Lib.hid hLL
      clear hZ hLL
      go_wp2_with (first
        | (go_at_call_of 17 b1; refine (room_any b1 g1 m1 N p _ HP.out.2.1).mono ?_; rintro e v1 ⟨rfl, rfl⟩)
        | (go_at_call 17; refine (room_nil _).mono ?_; rintro e v1 ⟨rfl, rfl⟩)
        | (go_at_call 11; refine (join_nil _ _ _).mono ?_; rintro e v1 ⟨rfl, rfl⟩)
        | (go_at_call 18; refine (of_nil _ _).mono ?_; rintro e v1 ⟨rfl, rfl⟩)
        | (go_at_call 8; refine (same_nil _ _ _).mono ?_; rintro e v1 ⟨rfl, rfl⟩)
        | (go_at_call 19; refine (count_nil _).mono ?_; rintro e v1 ⟨rfl, rfl⟩)
        | (go_at_call 20; refine (size_nil _ _).mono ?_; rintro e v1 ⟨rfl, rfl⟩))
      refine (list_nil W1).mono ?_
      rintro e v1 ⟨a0, c0, rfl, hb1⟩
      have HP1 := Lib.hid (HP.out.keep hb1)
      clear hb1 HP
      go_wp2_with fail
      refine (room_any b1 g1 m1 N p _ HP1.out.2.1).mono ?_
      rintro e v2 ⟨rfl, rfl⟩
      go_wp2_with fail
      refine (HR.out _).mono ?_
      rintro e v2 ⟨rfl, rfl⟩
      go_wp2_with fail
      refine (list_any b1 g1 m1 N p _ HP1.out.2.1).mono ?_
      rintro e v2 ⟨a1, c1, rfl, hr1, ht1, hc1⟩
      rw [HLLh.out] at hr1 ⊢
      have HP2 := Lib.hid (HP1.out.turn1 ht1 hc1)
      have HR1 := Lib.hid hr1
      have HM : Hid (g2 < v1.heap.size ∧ m2 < v1.heap.size) := Lib.hid ⟨HP1.out.2.2.1.lt.2.1, HP1.out.2.2.1.lt.2.2⟩
      clear hr1 ht1 hc1 HP1
      go_wp2_with fail
      refine (list_any b2 g2 m2 N p _ HP2.out.2.2.1).mono ?_
      rintro e v3 ⟨a2, c2, rfl, hr2, ht2, hc2⟩
      rw [HLLh.out] at hr2 ⊢
      have HP3 := Lib.hid (HP2.out.turn2 ht2 hc2)
      have HR2 := Lib.hid hr2
      have HR12 := Lib.hid (HR1.out.past ht2.2.2.2.1 (fun k h1 h2 => ht2.2.2.2.2 k h2 (by have := HM.out; omega) (by have := HM.out; omega)))
      clear hr2 ht2 hc2 HP2 HR1
      go_wp2_with fail
      refine (lists_true _ _ _ _ _ _ LL _ HR12.out HR2.out hLl HLe.out).mono ?_
      rintro e v4 ⟨rfl, m4, rfl⟩
      have HP4 := Lib.hid (HP3.out.keep (below_drewN (Below.refl v3.heap.size v3) m4))
      clear HP3 HR12 HR2
      go_wp2_with fail
      refine (of_any b1 g1 m1 N p v _ HP4.out.2.1).mono ?_
      rintro e v5 ⟨rfl, ht1, hc1⟩
      rw [HZ.out]
      have HP5 := Lib.hid (HP4.out.turn1 ht1 hc1)
      clear ht1 hc1 HP4
      go_wp2_with fail
      refine (of_any b2 g2 m2 N p v _ HP5.out.2.2.1).mono ?_
      rintro e v6 ⟨rfl, ht1, hc1⟩
      rw [HZ.out]
      have HP6 := Lib.hid (HP5.out.turn2 ht1 hc1)
      clear ht1 hc1 HP5
      go_wp2_with fail
      refine (awake_any _).mono ?_
      rintro e v7 ⟨rfl, hb7⟩
      have HB := Lib.hid (HP6.out.keep hb7).1
      clear hb7 HP6
      go_wp2
      go_ret
      exact ⟨rfl, HB.out⟩
theorem own : ownKnob Try.prog.godebug = none := by kernel_rfl
theorem laidOut : laidOutB Try.prog = true := by kernel_rfl
set_option maxRecDepth 100000 in
theorem lifted (os : Os) (started : os.Started) (H : Type) (enc : TypeId × Value → H) :
    ReturnsInHanded {} Try.checked os 4 .any (Rows.dsuOrderSpec.pre6 enc Try.prog Try.f4 Rows.dsuOrderRow.domain false) (Rows.dsuOrderSpec.post enc Try.prog Try.f4 false true false false) := by
  refine returnsInHanded_of_change (C := Try.checked) own started (by kernel_rfl) Try.func4
    (ChangeSpec.witness6 (enc := enc) (C := Try.checked) false ⟨#[], #[.int .i64 0, .slice none 0 0, .int .i64 0], []⟩ 8 (by kernel_rfl) (by kernel_rfl) (by kernel_rfl) (by kernel_rfl)) ?_
  intro W base args ds gs before hval0 hW hcnd _
  have hval : ∀ (j : Nat) t v, Try.f4.params[j]? = some t → args[j]? = some v → Value.okWide Try.prog W .any base t v := hval0
  have hW' := hW
  obtain ⟨p, q, hA0, hV, rfl, hfz, hnd⟩ := hW
  have hA : DataW.TrodAll enc Try.prog W 0 (fun _ => true) true Try.f4.params.toList args.toList ds p := hA0
  rw [Try.params4] at hA hval
  obtain ⟨v0, vs0, d0, ds0, p0, q0, hargs, rfl, rfl, h0, r0⟩ := trodAll_cons hA
  obtain ⟨v1, vs1, d1, ds1, p1, q1, rfl, rfl, rfl, h1, r1⟩ := trodAll_cons r0
  obtain ⟨v2, vs2, d2, ds2, p2, q2, rfl, rfl, rfl, h2, r2⟩ := trodAll_cons r1
  obtain ⟨rfl, rfl, rfl⟩ := trodAll_nil r2
  obtain rfl : args = #[v0, v1, v2] := by cases args; simp_all
  obtain ⟨rfl, rfl⟩ := trodVars_none hV
  obtain ⟨a0, rfl, rfl, rfl, w0⟩ := open_int Try.underlying3 (hval 0 3 v0 rfl rfl) h0
  obtain ⟨a1, len1, cap1, rfl⟩ := okWide_slice Try.underlying22 (hval 1 22 v1 rfl rfl)
  have k1 := h1
  have lt1 : ∀ x ∈ p1, x.block < W.heap.size := by obtain ⟨m, hm⟩ := k1; exact DataW.trod_lt m _ _ _ hm
  obtain ⟨l1, hlen1, w1⟩ : ∃ l : List (Int × Int), l.length = len1 ∧ ReadsO W.heap.size W a1 l ∧ l.length ≤ maxLen := by
    obtain ⟨fuel, hf⟩ := h1
    exact open_pairsI hf
  subst hlen1
  obtain ⟨a2, rfl, rfl, rfl, w2⟩ := open_int Try.underlying3 (hval 2 3 v2 rfl rfl) h2
  clear hA0 hval0
  refine (walk_list a0 a1 cap1 l1 a2 W w1.1 w1.2).mono fun e W' ⟨he, bel⟩ => ?_
  subst he
  exact ⟨_, rfl, _, _, _, [], _, [], hW', trodAll_mk1 (shut_bool Try.underlying4 _), (trodAll_cons_mk (shut_int Try.underlying3 w0) (trodAll_cons_mk (Below.trod laidOut (by kernel_rfl) (of_decide_eq_true (by kernel_rfl)) k1 bel lt1) (trodAll_cons_mk (shut_int Try.underlying3 w2) trodAll_mk0))), rfl, bel.frame _, fun h => by cases h⟩
theorem over : Rows.dsuOrderRow.holds Try.pinned (OpenSpec.ofChange Rows.dsuOrderSpec) :=
  OpenClaim.holds_of_wide 4 Try.f4 rfl rfl rfl rfl rfl rfl rfl ⟨rfl, rfl, rfl, rfl, rfl⟩ rfl rfl rfl rfl rfl (by kernel_rfl) Try.func4 (by kernel_rfl)
    (of_decide_eq_true (by kernel_rfl)) (by unfold Func.isWrapper; first | (rw [if_pos (by decide +kernel)]; kernel_rfl) | (rw [if_neg (by decide +kernel)]; exact ⟨rfl, rfl⟩))
    (fun os started H enc _ => lifted os started H enc)
/-- The statement. -/
theorem proved : Rows.DsuOrderSaid := over
#print axioms proved
end Go.Proofs.Ytnnicfjlakpghaa.dsuOrder
