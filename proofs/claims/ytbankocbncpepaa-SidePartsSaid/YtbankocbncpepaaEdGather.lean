/- Contract of gather: a map of sums by pairs. -/
import Derived.Test.YtbankocbncpepaaEdCode
import Derived.Test.YtbankocbncpepaaNumAdd
import Derived.StillTailTactics
namespace Go.Proofs.Ytbankocbncpepaa
open Go.RowKit Go.ChangeShapes Go.Maps EdPure NumPure
def GatRel (w : World) (l : List Ed) (k : Nat) (wr : World) : Prop :=
  k ≤ l.length ∧ Below w.heap.size w wr ∧ ∃ M D, gathM (l.take k) = some M ∧ OwnsD wr w.heap.size M.length D ∧ MapIs M D
def GathOut (l : List Ed) (w : World) (e : Ending) (w' : World) : Prop :=
  Below w.heap.size w w' ∧ ((gathM l = none ∧ e = .returned (.tuple #[.map none, .bool false])) ∨
    ∃ M m D, gathM l = some M ∧ e = .returned (.tuple #[.map (some m), .bool true]) ∧ w.heap.size ≤ m ∧ OwnsD w' m M.length D ∧ MapIs M D)
theorem made_map (w : World) : (Instr.makeMap 83 none).run Try.prog w = .ok (.map (some w.heap.size)) (w.alloc (.map #[] 0)) := rfl
theorem step_loop {M : List Ed} {u v x : Int} (h : u = v) : stepM (some M) (u, v, x) = some M := by unfold stepM; simp [h]
theorem step_add {M : List Ed} {u v x : Int} (h : u ≠ v) : stepM (some M) (u, v, x) = addL M (normE (u, v, x)) := by unfold stepM; simp [h]
set_option maxRecDepth 100000 in
set_option maxHeartbeats 800000 in
theorem gather_any (a : Option Addr) (c : Nat) (l : List Ed) (hl : l.length ≤ 1048576) (hI : InL l) (w : World) (hR : ReadsE w.heap.size w a l) :
    Calls Try.prog 37 #[.slice a l.length c] w fun e w' => GathOut l w e w' := by
  have HR := Lib.hid hR
  have HI := Lib.hid hI
  have hmm := made_map
  have HS : Hid (GatRel w l 0 (w.alloc (.map #[] 0))) := Lib.hid ⟨Nat.zero_le _, (Below.refl _ _).alloc (Nat.le_refl _) _, [], .map [], by rw [List.take_zero]; rfl, World.ownsMap_made _ _ _ _, MapIs.empty⟩
  clear hR hI
  go_enter Try.func37, Try.ntmps37
  go_wp2
  go_loopw [13] (fun i wr => ∃ k : Nat, i = .int .i64 k ∧ Hid (GatRel w l k wr)) (fun i _ => l.length - (intOf i).toNat)
  case atStart => exact ⟨0, rfl, HS⟩
  case round =>
    obtain ⟨k, rfl, HK⟩ := hrel
    clear HS hmm
    have i0 : (0 : Int) ≤ (k : Int) := by omega
    by_cases hlt : k < l.length
    · have i1 : (k : Int) < (l.length : Int) := by omega
      obtain ⟨-, hB, M, D, hM, hO, hD⟩ := HK.out
      obtain ⟨u, v, x, he⟩ : ∃ u v x, l[k] = (u, v, x) := ⟨_, _, _, rfl⟩
      obtain ⟨b, off, rfl, hbw, hbr, c0, c1, c2⟩ := HR.out.cells hlt hB he
      have hin : InE (u, v, x) := by have := HI.out.at hlt; rwa [he] at this
      have hst : gathM (l.take (k + 1)) = stepM (some M) (u, v, x) := by rw [gath_take hlt, hM, he]
      have hgood := (gath_upto HI.out k (by omega) hM).1
      have hMl := (gath_upto HI.out k (by omega) hM).2
      by_cases huv : u = v
      · subst huv
        have HN : Hid (GatRel w l (k + 1) (wr.alloc (.cells #[.int .i64 u, .int .i64 u, .int .i64 x] 58))) := Lib.hid
          ⟨hlt, hB.alloc hB.size _, M, D, hst.trans (step_loop rfl), map_on hO ((Below.refl _ _).alloc (Nat.le_refl _) _), hD⟩
        clear hB hM hO hD he hin hst hgood
        go_wp2
        exact ⟨⟨k + 1, by go_num, HN⟩, by simp [intOf]; omega⟩
      · have HN := Lib.hid (fun W => ends_any (u, v, x) W)
        obtain ⟨p, q, y, hq⟩ : ∃ p q y, normE (u, v, x) = (p, q, y) := ⟨_, _, _, rfl⟩
        obtain rfl : y = x := by have := norm_w (u, v, x); rw [hq] at this; exact this
        have hnin : InE (p, q, y) := by rw [← hq]; exact norm_in hin
        have hpq : p < q := by have := norm_lt (e := (u, v, y)) huv; rw [hq] at this; exact this
        rw [step_add huv, hq] at hst
        have hee : endsE (u, v, y) = (p, q) := by unfold endsE; rw [hq]
        rw [hee] at HN
        unfold encE encP at HN
        have t : (u == v) = false := by simpa using huv
        have h3 := ThreeAt.new wr (.int .i64 u) (.int .i64 v) (.int .i64 y) 58
        have hO1 := map_on hO ((Below.refl _ _).alloc (Nat.le_refl _) (.cells #[.int .i64 u, .int .i64 v, .int .i64 y] 58))
        have hB1 := hB.alloc hB.size (.cells #[.int .i64 u, .int .i64 v, .int .i64 y] 58)
        have H1 := Lib.hid (And.intro h3 (And.intro hO1 hB1))
        have HQ := Lib.hid (And.intro hst (And.intro hnin (And.intro hpq (And.intro hgood hD))))
        have hin3 : In y := hin.2.2
        clear h3 hO1 hB1 hst hnin hpq hgood hD hin hq hee hO hB hM he huv
        go_wp2_with fail
        have hbw : wr.heap.size < (wr.alloc (.cells #[.int .i64 u, .int .i64 v, .int .i64 y] 58)).heap.size := by simp
        generalize wr.alloc (.cells #[.int .i64 u, .int .i64 v, .int .i64 y] 58) = W1 at *
        refine (HN.out _).mono ?_
        rintro e w1 ⟨rfl, hb⟩
        have h2 := TwoAt.new w1 (.int .i64 p) (.int .i64 q) 51
        have hb2 : Below W1.heap.size W1 (w1.alloc (.cells #[.int .i64 p, .int .i64 q] 51)) := hb.alloc hb.size _
        have h3 := H1.out.1.on hb2 H1.out.1.lt
        have hO2 := map_on H1.out.2.1 hb2
        have hB2 := H1.out.2.2.trans (hb2.mono H1.out.2.2.size)
        go_wp2
        have h2' : TwoAt w1.heap.size ((w1.alloc (.cells #[.int .i64 p, .int .i64 q] 51)).drewN 1) (.int .i64 p) (.int .i64 q) := h2
        have h3' : ThreeAt wr.heap.size ((w1.alloc (.cells #[.int .i64 p, .int .i64 q] 51)).drewN 1) (.int .i64 u) (.int .i64 v) (.int .i64 y) := h3
        have hO3 : OwnsD ((w1.alloc (.cells #[.int .i64 p, .int .i64 q] 51)).drewN 1) w.heap.size M.length D := hO2
        have hB3 : Below w.heap.size w ((w1.alloc (.cells #[.int .i64 p, .int .i64 q] 51)).drewN 1) := below_drewN hB2 1
        clear h2 h3 hO2 hB2 hb hb2 H1 HN
        refine wp_region_still_tail 10 (by kernel_rfl) (by kernel_rfl) ?_
        change wpStill _ _ ((w1.alloc (.cells #[.int .i64 p, .int .i64 q] 51)).drewN 1) _ _ _
        change wpStill _ _ _ (fun a' => wpList _ _ _ _ _ ((w1.alloc (.cells #[.int .i64 p, .int .i64 q] 51)).drewN 1)) _ _
        generalize (w1.alloc (.cells #[.int .i64 p, .int .i64 q] 51)).drewN 1 = W3 at *
        generalize w1.heap.size = P1 at *
        obtain ⟨-, ⟨ip, iq, -⟩, hpq, hgood, hD⟩ := HQ.out
        have hlook := look_any hO3 hD ip iq
        have HO3 := Lib.hid (And.intro hO3 hB3)
        obtain ⟨a0, a1, -, -⟩ := h2'
        obtain ⟨d0, d1, d2, -, -, -⟩ := h3'
        have hw := wOf_in (M := M) (fun x hx => (hgood.2 x hx).2) p q
        have hadd := add_none (e := (p, q, y)) hgood.1 hin3
        have HA := Lib.hid (And.intro hadd (And.intro (And.intro ip iq) (And.intro hgood hD)))
        clear hO3 hB3 hgood hD hadd ip iq
        simp only [List.take_succ_cons, List.take_zero, List.drop_succ_cons, List.drop_zero]
        have hcall := add_any (wOf M p q) y hw hin3 W3
        clear hw
        generalize hsum : wOf M p q = sum at *
        cases hf : fitsB (sum + y)
        · have HX : Hid (gathM l = none) := Lib.hid (gath_stays (k + 1) (HQ.out.1.trans (HA.out.1.2 hf)))
          rw [hf] at hcall
          have HC := Lib.hid hcall
          clear hf hcall hsum
          iterate 5 still_step
          still_call (HC.out.mono fun _ _ ⟨h1, h2⟩ => ⟨h1, h2.symm⟩)
          iterate 4 still_step
          refine wpStill_nil ?_
          go_wp2
          go_ret2
          exact ⟨HO3.out.2, Or.inl ⟨HX.out, rfl⟩⟩
        · have hc : cut (sum + y) = sum + y := cut_in ((fits_iff _).1 hf)
          rw [hf, hc] at hcall
          obtain ⟨M', hM'⟩ : ∃ M', addL M (p, q, y) = some M' := by
            cases hM' : addL M (p, q, y) with
            | none => rw [HA.out.1.1 hM'] at hf; cases hf
            | some M' => exact ⟨M', rfl⟩
          have HP : Hid (MapIs M' (D.put (kP p q) (dI (sum + y))) ∧ gathM (l.take (k + 1)) = some M') := Lib.hid ⟨map_addP HA.out.2.2.2 HA.out.2.2.1.1 HA.out.2.1.1 HA.out.2.1.2 hM' hsum, HQ.out.1.trans hM'⟩
          have hwf : (Lit.int .i64 (sum + y)).wf = true := WalkArith.wf_i64 (by have := (fits_iff _).1 hf; omega)
          have HC := Lib.hid hcall
          have HK2 : Hid (keyOf Try.prog 51 (.agg #[.int .i64 p, .int .i64 q]) = some (kP p q)) := Lib.hid (keyP HA.out.2.1.1 HA.out.2.1.2)
          have HO4 : Hid (W3.ownsMap Try.prog 51 (plainElem (H := Unit) Try.prog 2) w.heap.size M.length D) := Lib.hid HO3.out.1
          have HV : Hid (plainElem (H := Unit) Try.prog 2 (.int .i64 (sum + y)) = some (dI (sum + y), [])) := Lib.hid (plainElem_int Try.underlying2 hwf)
          clear hf hcall hsum hc hM'
          iterate 5 still_step
          still_call (HC.out.mono fun _ _ ⟨h1, h2⟩ => ⟨h1, h2.symm⟩)
          iterate 4 still_step
          refine wpStill_nil ?_
          go_wp2_with (first
            | (at_mapUpdate; refine wpList_mapUpdate_own _ rfl _ _ _ 83 rfl 51 2 lawP Try.underlying83 _ w.heap.size M.length D rfl HO4.out (by unfold maxLen; omega) (.agg #[.int .i64 p, .int .i64 q]) (.int .i64 (sum + y)) (kP p q) rfl rfl HK2.out (dI (sum + y)) [] HV.out ?_; intro w5 hown5 hg5; have HZ := Lib.hid (And.intro hown5 hg5); clear hown5 hg5; go_frame))
          exact ⟨⟨k + 1, by go_num, Lib.hid ⟨hlt, HO3.out.2.grown HZ.out.2 HO3.out.2.size (fun j hj => by cases hj; exact Nat.le_refl _), M', D.put (kP p q) (dI (sum + y)), HP.out.2, by have h := map_tight HZ.out.1; rwa [HP.out.1.2.2.2] at h, HP.out.1⟩⟩, by simp [intOf]; omega⟩
    · have hk : k = l.length := by have := HK.out.1; omega
      subst hk
      obtain ⟨-, hB, M, D, hM, hO, hD⟩ := HK.out
      rw [List.take_length] at hM
      have HZ := Lib.hid (And.intro hB (And.intro hM (And.intro hO hD)))
      clear hB hM hO hD
      go_wp2
      go_ret2
      exact ⟨HZ.out.1, Or.inr ⟨M, w.heap.size, D, HZ.out.2.1, rfl, Nat.le_refl _, HZ.out.2.2.1, HZ.out.2.2.2⟩⟩
end Go.Proofs.Ytbankocbncpepaa
