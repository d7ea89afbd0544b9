/- All degrees of any graph together are twice its total; near are just those between which and the vertex there is some weight, and all of it is the degree. Conditions: none: every number of vertices up to 255, every slice of edges (of edges of which there is no graph the law asks that New answers none, of more than a hundred only that the program makes graphs at all). -/
import Derived.Test.YtibjpoadpciiaaaNtAwake
import Derived.Test.YtibjpoadpciiaaaEdOpen
import Derived.Test.YtibjpoadpciiaaaChecked
import Derived.Test.YtibjpoadpciiaaaRows
import Derived.ChangeSlices
import Derived.ProofKit
import Derived.OpenShut
import Derived.ChangeOld
import Derived.Below
import Derived.Carry
namespace Go.Proofs.Ytibjpoadpciiaaa.netTwice
open Go.ChangeShapes Go.WideShapes Go.ChangeAt Go.RowKit EdPure NtPure NumPure
theorem take_sum {L : List Int} {f : Int → Int} (hf : ∀ x, 0 ≤ f x) (j : Nat) : 0 ≤ ((L.take j).map f).sum ∧ ((L.take j).map f).sum ≤ (L.map f).sum := by
  have key : ∀ K : List Int, 0 ≤ (K.map f).sum := fun K => by
    induction K with
    | nil => simp
    | cons x r ih => have := hf x; rw [List.map_cons, List.sum_cons]; omega
  have h1 := key (L.take j)
  have h2 := key (L.drop j)
  have h3 : (L.map f).sum = ((L.take j).map f).sum + ((L.drop j).map f).sum := by rw [← List.sum_append, ← List.map_append, List.take_append_drop]
  omega
theorem take_next {L : List Int} {f : Int → Int} {j : Nat} (hj : j < L.length) : ((L.take (j + 1)).map f).sum = ((L.take j).map f).sum + f L[j] := by
  rw [take_snoc _ _ hj, List.map_append, List.sum_append]; simp
def OutSt (W : World) (g : Nat) (N : Nat) (M : List Ed) (w : World) : Prop := Below W.heap.size W w ∧ NetAt (some ⟨g, 0, none⟩) N M w
theorem OutSt.keep {W w w' : World} {g N : Nat} {M : List Ed} (h : OutSt W g N M w) (hb : Below w.heap.size w w') : OutSt W g N M w' := ⟨h.1.trans (hb.mono h.1.size), h.2.over hb⟩
set_option maxRecDepth 100000 in
set_option maxHeartbeats 4000000 in
theorem walk_list (n : Int) (hn : (Lit.int .u8 n).wf = true) (a : Option Addr) (cap : Nat) (l : List Ed) (W : World) (h1 : EdIn W a l) (_h2 : l.length ≤ maxLen) :
    Calls Try.prog 5 #[.int .u8 n, .slice a l.length cap] W fun r w' => r = .returned (.bool true) ∧ Below W.heap.size W w' := by
  obtain ⟨n0, n1⟩ : 0 ≤ n ∧ n ≤ 255 := bounds_u8 hn
  by_cases hlen : l.length ≤ 100
  · have i1 : ¬ (l.length : Int) > 100 := by omega
    have HNew := Lib.hid (newNet_any n a cap l h1.1 W h1.2)
    clear h1
    obtain ⟨e1, e2, he⟩ : ∃ e1 e2, errN n l = (e1, e2) := ⟨_, _, rfl⟩
    have HE := Lib.hid he
    unfold NewOut at HNew
    rw [he] at HNew
    simp only at HNew
    clear he hn
    go_enter Try.func5, Try.ntmps5
    go_wp2_with fail
    refine HNew.out.mono ?_
    rintro e w1 ⟨hb1, ⟨hne, rfl⟩ | ⟨hz, N, M, g, rfl, hN, hg, hMl, -, -, rfl, hnt⟩⟩
    · have t : (e1 != 0) = true := by simpa using hne
      have HB1 := Lib.hid hb1
      clear hne hb1 HNew
      go_wp2_with (first | (go_at_call 6; refine (awake_any _).mono ?_; rintro e w2 ⟨rfl, hb2⟩; have HB2 := Lib.hid (HB1.out.trans (hb2.mono HB1.out.size)); clear hb2))
      go_ret
      exact ⟨rfl, HB2.out⟩
    simp only [Prod.mk.injEq] at hz
    obtain ⟨rfl, rfl⟩ := hz
    have HS1 : Hid (OutSt W g N M w1) := Lib.hid ⟨hb1, hnt⟩
    have HG := Lib.hid hg
    have hM1 : M.length ≤ 1048576 := by omega
    have HA := Lib.hid (And.intro (deg_all hg) (And.intro (allW_pos hg.non) hg.2.2))
    have HD := Lib.hid (fun v : Int => degV_eq hg v)
    have HV := Lib.hid (fun v : Int => nearV_eq hg v)
    have HP := Lib.hid (fun (k : Nat) (hk : k ≤ N) => And.intro (sumN_pos (fun u => (deg_rng hg.non u).1) k) (sumN_mono (fun u => (deg_rng hg.non u).1) hk))
    have HT := Lib.hid (fun (v : Int) (j : Nat) => take_sum (L := nearE M v) (fun u => (wei_rng hg v u).1) j)
    have HNS := Lib.hid (fun v : Int => near_sum hg v)
    have HDR := Lib.hid (fun v : Int => deg_rng hg.non v)
    have HNM := Lib.hid (fun (v u : Int) => near_mem hg v u)
    have HWR := Lib.hid (fun (v u : Int) => wei_rng hg v u)
    clear hb1 hnt hg HNew HE
    go_wp2
    go_loopw [8, 9] (fun s i wr => ∃ k : Nat, s = .int .i64 (sumN (degE M) k) ∧ i = .int .i64 k ∧ k ≤ N ∧ Hid (OutSt W g N M wr)) (fun _ i _ => N - (intOf i).toNat)
    case atStart => exact ⟨0, rfl, rfl, Nat.zero_le _, HS1⟩
    case round =>
      obtain ⟨k, rfl, rfl, hk, HK⟩ := hrel
      clear HS1
      have j0 : (0 : Int) ≤ (k : Int) := by omega
      by_cases hlt : k < N
      · have j1 : (k : Int) < (N : Int) := by omega
        have hp := HP.out (k + 1) hlt
        have hsucc : sumN (degE M) (k + 1) = sumN (degE M) k + degE M k := rfl
        have HSU := Lib.hid hsucc
        rw [hsucc] at hp
        have hp0 := HP.out k hk
        have hd := HDR.out (k : Int)
        have ha := HA.out
        rw [ha.1] at hp hp0
        have b1 : sumN (degE M) k + degE M k ≤ 4503599627370496 := by omega
        have b0 : 0 ≤ sumN (degE M) k := hp0.1
        have b2 : 0 ≤ degE M k := hd.1
        have b3 : degE M k ≤ 2251799813685248 := by omega
        clear hp hp0 hd ha hsucc
        have HB3 := Lib.hid b3
        generalize sumN (degE M) k = s at *
        obtain ⟨d, hd⟩ : ∃ d, degE M (k : Int) = d := ⟨_, rfl⟩
        have HDD := Lib.hid hd
        rw [hd] at b1 b2 b3 HSU
        clear hd
        go_wp2_with fail
        refine (degree_any _ N M (k : Int) wr HK.out.2).mono ?_
        rintro e w2 ⟨rfl, hb2⟩
        have HK2 := Lib.hid (HK.out.keep hb2)
        rw [HD.out, HDD.out]
        clear hb2 HK
        go_wp2_with fail
        refine (near_any _ N M hM1 (k : Int) w2 HK2.out.2).mono ?_
        rw [HV.out]
        rintro e w3 ⟨hb3, q, c3, rfl, hr3⟩
        have HK3 := Lib.hid (HK2.out.keep hb3)
        have HR3 := Lib.hid hr3
        clear hb3 hr3 HK2
        have HX : Hid (((nearE M (k : Int)).map (weiE M k)).sum = d) := Lib.hid ((HNS.out _).trans HDD.out)
        have HTk := Lib.hid (fun j => HT.out (k : Int) j)
        have HMk := Lib.hid (fun u => (HNM.out (k : Int) u).1)
        have hLl : (nearE M (k : Int)).length ≤ 1048576 := Nat.le_trans (near_len M _) hM1
        generalize nearE M (k : Int) = L at *
        obtain ⟨w0, hw0⟩ : ∃ w0, w0 = w3 := ⟨_, rfl⟩
        subst hw0
        go_wp2
        go_loopw [10, 12] (fun dv i wr => ∃ j : Nat, dv = .int .i64 (((L.take j).map (weiE M k)).sum) ∧ i = .int .i64 j ∧ j ≤ L.length ∧ Hid (OutSt W g N M wr ∧ ReadsL encZ wr.heap.size wr q L)) (fun _ i _ => L.length - (intOf i).toNat)
        case atStart => exact ⟨0, rfl, rfl, Nat.zero_le _, Lib.hid ⟨HK3.out, HR3.out⟩⟩
        case round =>
          obtain ⟨j, rfl, rfl, hj, HJ⟩ := hrel
          clear HK3 HR3
          have m0 : (0 : Int) ≤ (j : Int) := by omega
          by_cases hjl : j < L.length
          · have m1 : (j : Int) < (L.length : Int) := by omega
            obtain ⟨b, off, rfl, hb, c0⟩ := HJ.out.2.at hjl
            have HS2 := Lib.hid (take_next (f := weiE M (k : Int)) hjl)
            have ht := HTk.out (j + 1)
            rw [HX.out, HS2.out] at ht
            have ht0 := (HTk.out j).1
            obtain ⟨x, hx⟩ : ∃ x, L[j] = x := ⟨_, rfl⟩
            have hpos := HMk.out x (by rw [← hx]; exact List.getElem_mem hjl)
            rw [hx] at c0 ht HS2
            unfold encZ at c0
            have HSY := Lib.hid (wei_symm M x (k : Int))
            obtain ⟨y, hy⟩ : ∃ y, weiE M (k : Int) x = y := ⟨_, rfl⟩
            have HY := Lib.hid hy
            rw [HSY.out, hy] at hpos
            rw [hy] at ht HS2 HSY
            obtain ⟨z, hz⟩ : ∃ z, ((L.take j).map (weiE M (k : Int))).sum = z := ⟨_, rfl⟩
            rw [hz] at ht ht0 HS2
            rw [hz]
            have v0 : 0 < y := hpos
            have v1 : z + y ≤ 2251799813685248 := by omega
            have v2 : 0 ≤ z := ht0
            have v3 : ¬ y ≤ 0 := by omega
            have t : (y != y) = false := bne_self_eq_false _
            clear hy hz hx hpos ht ht0
            go_wp2_with fail
            refine (weight_any _ N M HG.out hM1 (k : Int) x wr HJ.out.1.2).mono ?_
            rw [HY.out]
            rintro e w4 ⟨rfl, hb4⟩
            have HJ4 := Lib.hid (And.intro (HJ.out.1.keep hb4) (HJ.out.2.over hb4 (Nat.le_refl _)))
            have c4 : w4.cell? ⟨b, off + j, none⟩ = some (.int .i64 x) := (hb4.cell (p := ⟨b, off + j, none⟩) hb).trans c0
            have l4 : b < w4.heap.size := Nat.lt_of_lt_of_le hb hb4.size
            clear hb4 c0 hb HJ
            go_wp2_with fail
            refine (weight_any _ N M HG.out hM1 x (k : Int) w4 HJ4.out.1.2).mono ?_
            rw [HSY.out]
            rintro e w5 ⟨rfl, hb5⟩
            have HJ5 := Lib.hid (And.intro (HJ4.out.1.keep hb5) (HJ4.out.2.over hb5 (Nat.le_refl _)))
            clear hb5 c4 l4 HJ4
            go_wp2
            go_roundw
            case rel => exact ⟨j + 1, by rw [HS2.out], by go_num, hjl, HJ5⟩
            case measure => (simp [intOf]; omega)
          · have hj' : j = L.length := by omega
            subst hj'
            have HL : Hid (((L.take L.length).map (weiE M (k : Int))).sum = d) := Lib.hid (by rw [List.take_length]; exact HX.out)
            rw [HL.out]
            have t : (d != d) = false := bne_self_eq_false _
            go_wp2_with fail
            refine (degree_any _ N M (k : Int) wr HJ.out.1.2).mono ?_
            rintro e w4 ⟨rfl, hb4⟩
            have HJ4 := Lib.hid (HJ.out.1.keep hb4)
            rw [HD.out, HDD.out]
            clear hb4 HJ
            go_wp2
            go_roundw
            case rel => exact ⟨k + 1, by rw [HSU.out], by go_num, hlt, HJ4⟩
            case measure => (simp [intOf]; omega)
      · have hk' : k = N := by omega
        subst hk'
        have ha := HA.out
        have HA1 := Lib.hid ha.1
        have a0 : 0 ≤ allW M := ha.2.1
        have a1 : allW M ≤ 2251799813685248 := ha.2.2
        clear ha
        rw [HA1.out]
        obtain ⟨tw, htw⟩ : ∃ tw, allW M = tw := ⟨_, rfl⟩
        have HTW := Lib.hid htw
        rw [htw] at a0 a1
        rw [htw]
        have t : (2 * tw == 2 * tw) = true := beq_self_eq_true _
        clear htw
        go_wp2_with fail
        refine (totalN_any _ k (by omega) M HG.out hM1 wr HK.out.2).mono ?_
        rw [HTW.out]
        rintro e w4 ⟨rfl, hb4⟩
        have HK4 := Lib.hid (HK.out.keep hb4)
        clear hb4 HK
        go_wp2_with (first | (go_at_call 6; refine (awake_any _).mono ?_; rintro e w5 ⟨rfl, hb5⟩; have HB5 := Lib.hid (HK4.out.1.trans (hb5.mono HK4.out.1.size)); clear hb5))
        go_ret
        exact ⟨rfl, HB5.out⟩
  · have i1 : (l.length : Int) > 100 := by omega
    go_enter Try.func5, Try.ntmps5
    go_wp2_with fail
    refine (awake_any _).mono ?_
    rintro e w1 ⟨rfl, hb1⟩
    have HB1 := Lib.hid hb1
    clear hb1
    go_wp2
    go_ret
    exact ⟨rfl, HB1.out⟩
theorem own : ownKnob Try.prog.godebug = none := by kernel_rfl
theorem laidOut : laidOutB Try.prog = true := by kernel_rfl
set_option maxRecDepth 100000 in
theorem lifted (os : Os) (started : os.Started) (H : Type) (enc : TypeId × Value → H) :
    ReturnsInHanded {} Try.checked os 5 .any (Rows.netTwiceSpec.pre6 enc Try.prog Try.f5 Rows.netTwiceRow.domain false) (Rows.netTwiceSpec.post enc Try.prog Try.f5 false true false false) := by
  refine returnsInHanded_of_change (C := Try.checked) own started (by kernel_rfl) Try.func5
    (ChangeSpec.witness6 (enc := enc) (C := Try.checked) false ⟨#[], #[.int .u8 0, .slice none 0 0], []⟩ 8 (by kernel_rfl) (by kernel_rfl) (by kernel_rfl) (by kernel_rfl)) ?_
  intro W base args ds gs before hval0 hW hcnd _
  have hval : ∀ (j : Nat) t v, Try.f5.params[j]? = some t → args[j]? = some v → Value.okWide Try.prog W .any base t v := hval0
  have hW' := hW
  obtain ⟨p, q, hA0, hV, rfl, hfz, hnd⟩ := hW
  have hA : DataW.TrodAll enc Try.prog W 0 (fun _ => true) true Try.f5.params.toList args.toList ds p := hA0
  rw [Try.params5] at hA hval
  obtain ⟨v0, vs0, d0, ds0, p0, q0, hargs, rfl, rfl, h0, r0⟩ := trodAll_cons hA
  obtain ⟨v1, vs1, d1, ds1, p1, q1, rfl, rfl, rfl, h1, r1⟩ := trodAll_cons r0
  obtain ⟨rfl, rfl, rfl⟩ := trodAll_nil r1
  obtain rfl : args = #[v0, v1] := by cases args; simp_all
  obtain ⟨rfl, rfl⟩ := trodVars_none hV
  obtain ⟨a0, rfl, rfl, rfl, w0⟩ := open_int Try.underlying5 (hval 0 5 v0 rfl rfl) h0
  obtain ⟨a1, len1, cap1, rfl⟩ := okWide_slice Try.underlying22 (hval 1 22 v1 rfl rfl)
  have k1 := h1
  have lt1 : ∀ x ∈ p1, x.block < W.heap.size := by obtain ⟨m, hm⟩ := k1; exact DataW.trod_lt m _ _ _ hm
  obtain ⟨l1, hlen1, w1⟩ : ∃ l : List Ed, l.length = len1 ∧ EdIn W a1 l ∧ l.length ≤ maxLen := by
    obtain ⟨fuel, hf⟩ := h1
    exact open_edges hf
  subst hlen1
  clear hA0 hval0
  refine (walk_list a0 w0 a1 cap1 l1 W w1.1 w1.2).mono fun e W' ⟨he, bel⟩ => ?_
  subst he
  exact ⟨_, rfl, _, _, _, [], _, [], hW', trodAll_mk1 (shut_bool Try.underlying4 _), (trodAll_cons_mk (shut_int Try.underlying5 w0) (trodAll_cons_mk (Below.trod laidOut (by kernel_rfl) (of_decide_eq_true (by kernel_rfl)) k1 bel lt1) trodAll_mk0)), rfl, bel.frame _, fun h => by cases h⟩
theorem over : Rows.netTwiceRow.holds Try.pinned (OpenSpec.ofChange Rows.netTwiceSpec) :=
  OpenClaim.holds_of_wide 5 Try.f5 rfl rfl rfl rfl rfl rfl rfl ⟨rfl, rfl, rfl, rfl, rfl⟩ rfl rfl rfl rfl rfl (by kernel_rfl) Try.func5 (by kernel_rfl)
    (of_decide_eq_true (by kernel_rfl)) (by unfold Func.isWrapper; first | (rw [if_pos (by decide +kernel)]; kernel_rfl) | (rw [if_neg (by decide +kernel)]; exact ⟨rfl, rfl⟩))
    (fun os started H enc _ => lifted os started H enc)
/-- The statement. -/
theorem proved : Rows.NetTwiceSaid := over
#print axioms proved
end Go.Proofs.Ytibjpoadpciiaaa.netTwice
