/- Contracts of slices.Equal at edges, and of Same; of nil too. -/
import Derived.Test.YtdbebebhldldmaaGreatDoorPk14
import Derived.Test.YtdbebebhldldmaaGreatDoorPk24
import Derived.Deep.RegionHeld3
namespace Go.Proofs.YtdbebebhldldmaaGreatDoor
open Go.RowKit Go.ChangeShapes EdPure NtPure NumPure
set_option maxRecDepth 100000 in
set_option maxHeartbeats 1000000 in
theorem equalE_any (a b : Option Addr) (c d : Nat) (l m : List Ed) (hl : l.length ≤ 1048576) (_hm : m.length ≤ 1048576) (w : World) (hR : ReadsE w.heap.size w a l) (hS : ReadsE w.heap.size w b m) :
    Calls Tryz.prog 48 #[.slice a l.length c, .slice b m.length d] w fun e w' => e = .returned (.bool (decide (l = m))) ∧ Below w.heap.size w w' := by
  have HR := Lib.hid hR
  have HS := Lib.hid hS
  clear hR hS
  by_cases hlen : l.length = m.length
  · have HL := Lib.hid hlen
    rw [← hlen]
    clear hlen
    go_enter Tryz.func48, Tryz.ntmps48
    go_wp2
    go_loopw [13] (fun i wr => ∃ k : Nat, i = .int .i64 k ∧ Hid (SameRel w l m k wr)) (fun i _ => l.length - (intOf i).toNat)
    case atStart => exact ⟨0, rfl, Lib.hid ⟨Nat.zero_le _, Below.refl _ _, fun j _ _ h => by omega⟩⟩
    case round =>
      obtain ⟨k, rfl, HK⟩ := hrel
      have i0 : (0 : Int) ≤ (k : Int) := by omega
      by_cases hlt : k < l.length
      · have i1 : (k : Int) < (l.length : Int) := by omega
        have hlt2 : k < m.length := by have := HL.out; omega
        obtain ⟨u, v, x, he⟩ : ∃ u v x, l[k] = (u, v, x) := ⟨_, _, _, rfl⟩
        obtain ⟨u', v', x', he'⟩ : ∃ u v x, m[k] = (u, v, x) := ⟨_, _, _, rfl⟩
        obtain ⟨p, off, rfl, hbw, hbr, c0, c1, c2⟩ := HR.out.cells hlt HK.out.2.1 he
        obtain ⟨p', off', rfl, hbw', hbr', d0, d1, d2⟩ := HS.out.cells hlt2 HK.out.2.1 he'
        have HE := Lib.hid (And.intro he he')
        clear he he'
        by_cases hq : (u, v, x) = (u', v', x')
        · simp only [Prod.mk.injEq] at hq
          obtain ⟨rfl, rfl, rfl⟩ := hq
          go_wp2
          go_quiet (fail)
          go_wp2
          go_roundw
          case rel => exact ⟨k + 1, by go_num, Lib.hid ⟨hlt, below_drewN HK.out.2.1 _, fun j h1 h2 hjk => by
            by_cases e : j = k
            · subst e; rw [HE.out.1, HE.out.2]
            · exact HK.out.2.2 j h1 h2 (by omega)⟩⟩
          case measure => (simp [intOf]; omega)
        · have HX : Hid (decide (l = m) = false) := Lib.hid (decide_eq_false fun e => hq (by rw [← HE.out.1, ← HE.out.2]; simp [e]))
          by_cases e1 : u = u'
          · subst e1
            by_cases e2 : v = v'
            · subst e2
              have t : (x == x') = false := by
                have : ¬ x = x' := fun e => hq (by rw [e])
                simpa using this
              clear hq
              go_wp2
              go_quiet (fail)
              go_wp2
              go_ret
              exact ⟨bool_ret HX.out.symm, below_drewN HK.out.2.1 _⟩
            · have t : (v == v') = false := by simpa using e2
              clear hq e2
              go_wp2
              go_quiet (fail)
              go_wp2
              go_ret
              exact ⟨bool_ret HX.out.symm, below_drewN HK.out.2.1 _⟩
          · have t : (u == u') = false := by simpa using e1
            clear hq e1
            go_wp2
            go_quiet (fail)
            go_wp2
            go_ret
            exact ⟨bool_ret HX.out.symm, below_drewN HK.out.2.1 _⟩
      · have hk : k = l.length := by have := HK.out.1; omega
        subst hk
        have HX : Hid (decide (l = m) = true) := Lib.hid (decide_eq_true (List.ext_getElem HL.out fun j h1 h2 => HK.out.2.2 j h1 h2 h1))
        go_wp2
        go_ret
        exact ⟨bool_ret HX.out.symm, HK.out.2.1⟩
  · have HX : Hid (decide (l = m) = false) := Lib.hid (decide_eq_false fun e => hlen (by rw [e]))
    have t : ((l.length : Int) != (m.length : Int)) = true := by simp; omega
    clear hlen
    go_enter Tryz.func48, Tryz.ntmps48
    go_wp2
    go_ret
    exact ⟨bool_ret HX.out.symm, Below.refl _ _⟩
/-- Two graphs that are held against each other. -/
def SmSt (w0 : World) (g g' n n' : Nat) (M M' : List Ed) (pe pe' : Option Addr) (ce ce' : Nat) (W : World) : Prop :=
  Below w0.heap.size w0 W ∧ NetAt (some ⟨g, 0, none⟩) n M W ∧ NetAt (some ⟨g', 0, none⟩) n' M' W ∧ (W.cell? ⟨g, 1, none⟩ = some (.slice pe M.length ce) ∧ W.cell? ⟨g', 1, none⟩ = some (.slice pe' M'.length ce')) ∧ (ReadsE W.heap.size W pe M ∧ ReadsE W.heap.size W pe' M') ∧ (g < W.heap.size ∧ g' < W.heap.size)
theorem SmSt.keep {w0 W W' : World} {g g' n n' : Nat} {M M' : List Ed} {pe pe' : Option Addr} {ce ce' : Nat} (h : SmSt w0 g g' n n' M M' pe pe' ce ce' W) (hb : Below W.heap.size W W') : SmSt w0 g g' n n' M M' pe pe' ce ce' W' :=
  ⟨h.1.trans (hb.mono h.1.size), h.2.1.over hb, h.2.2.1.over hb, ⟨(hb.cell (by exact h.2.2.2.2.2.1)).trans h.2.2.2.1.1, (hb.cell (by exact h.2.2.2.2.2.2)).trans h.2.2.2.1.2⟩, ⟨h.2.2.2.2.1.1.over hb (Nat.le_refl _), h.2.2.2.2.1.2.over hb (Nat.le_refl _)⟩, Nat.lt_of_lt_of_le h.2.2.2.2.2.1 hb.size, Nat.lt_of_lt_of_le h.2.2.2.2.2.2 hb.size⟩
def sameG (p r : Option Addr) (n n' : Nat) (M M' : List Ed) : Bool := if p = none ∨ r = none then decide (p = none ∧ r = none) else decide (n = n' ∧ M = M')
set_option maxRecDepth 100000 in
set_option maxHeartbeats 2000000 in
theorem sameN_any (p r : Option Addr) (n n' : Nat) (M M' : List Ed) (hl : M.length ≤ 1048576) (hl' : M'.length ≤ 1048576) (hn : n ≤ 4096) (hn' : n' ≤ 4096) (w : World) (h : NetAt p n M w) (h' : NetAt r n' M' w) :
    Calls Tryz.prog 19 #[.pointer p, .pointer r] w fun e w' => e = .returned (.bool (sameG p r n n' M M')) ∧ Below w.heap.size w w' := by
  have H := h
  have H' := h'
  rcases h with ⟨rfl, rfl, rfl⟩ | ⟨g, pv, cv, pe, ce, rfl, h2, h3, h4, h5, h6⟩
  · rcases h' with ⟨rfl, rfl, rfl⟩ | ⟨g', pv', cv', pe', ce', rfl, -⟩
    · have HX : Hid (sameG none none 0 0 [] [] = true) := Lib.hid (by unfold sameG; simp)
      clear H H' hl hl' hn hn'
      go_enter Tryz.func19, Tryz.ntmps19
      go_wp2
      go_ret
      exact ⟨bool_ret HX.out.symm, Below.refl _ _⟩
    · have HX : Hid (sameG none (some ⟨g', 0, none⟩) 0 n' [] M' = false) := Lib.hid (by unfold sameG; simp)
      have hq : ∀ w, (binOp .eql 24 (.pointer none) (.pointer (some ⟨g', 0, none⟩))).run Tryz.prog w = .ok (.bool false) w := fun w => by first | rfl | kernel_rfl | (go_simp; rfl)
      clear H H' hl hl' hn hn'
      go_enter Tryz.func19, Tryz.ntmps19
      go_wp2
      go_ret
      exact ⟨bool_ret HX.out.symm, Below.refl _ _⟩
  · rcases h' with ⟨rfl, rfl, rfl⟩ | ⟨g', pv', cv', pe', ce', rfl, k2, k3, k4, k5, k6⟩
    · have HX : Hid (sameG (some ⟨g, 0, none⟩) none n 0 M [] = false) := Lib.hid (by unfold sameG; simp)
      clear H H' hl hl' hn hn' h2 h3 h4 h5 h6
      go_enter Tryz.func19, Tryz.ntmps19
      go_wp2
      go_ret
      exact ⟨bool_ret HX.out.symm, Below.refl _ _⟩
    · have HX : Hid (sameG (some ⟨g, 0, none⟩) (some ⟨g', 0, none⟩) n n' M M' = decide (n = n' ∧ M = M')) := Lib.hid (by unfold sameG; simp)
      have HS : Hid (SmSt w g g' n n' M M' pe pe' ce ce' (w.drewN 1)) := Lib.hid (SmSt.keep (W := w) ⟨Below.refl _ _, H, H', ⟨h4, k4⟩, ⟨h5, k5⟩, h2, k2⟩ (below_drewN (Below.refl _ _) 1))
      clear H H' h2 h3 h4 h5 h6 k2 k3 k4 k5 k6
      have hY := HS.out.2.2.2.1
      by_cases hnn : n = n'
      · subst hnn
        have t : ((n : Int) == (n : Int)) = true := beq_self_eq_true _
        have HZ : Hid (sameG (some ⟨g, 0, none⟩) (some ⟨g', 0, none⟩) n n M M' = decide (M = M')) := Lib.hid (by rw [HX.out]; simp)
        clear HX
        obtain ⟨bb, hbb⟩ : ∃ bb, decide (M = M') = bb := ⟨_, rfl⟩
        have HBB := Lib.hid hbb
        clear hbb
        go_enter Tryz.func19, Tryz.ntmps19
        go_upto_region 3 with fail
        refine wp_region_held_drew (S := fun W => W.cell? ⟨g, 1, none⟩ = some (.slice pe M.length ce) ∧ W.cell? ⟨g', 1, none⟩ = some (.slice pe' M'.length ce')) (by kernel_rfl) hY (fun hHeld => ?_)
        refine wpAnyH_take (i := 0) (v := ?vu0) rfl (by kernel_rfl) (by kernel_rfl) (by kernel_rfl) (fun _ _ _ h => h) (Or.inl ⟨by kernel_rfl, fun w' hSw => ?hyu0⟩) (by assumption) ?restu0
        case hyu0 => ((try dsimp only at hSw); go_simp; (try with_reducible rfl))
        simp only [Act.put]
        refine wpAnyH_take (i := 2) (v := ?vu2) rfl (by kernel_rfl) (by kernel_rfl) (by kernel_rfl) (fun _ _ _ h => h) (Or.inl ⟨by kernel_rfl, fun w' hSw => ?hyu2⟩) (by assumption) ?restu2
        case hyu2 => ((try dsimp only at hSw); go_simp; (try with_reducible rfl))
        simp only [Act.put]
        refine wpAnyH_ready (rs := [1]) (by kernel_rfl) (by simp) ?_
        refine AllReadyH.cons rfl (fun K hK => ?_) AllReadyH.nil
        go_simp
        refine (num_any _ n M _ HS.out.2.1).mono ?_
        rintro e w5 ⟨rfl, hb5⟩
        have H5 := Lib.hid (HS.out.keep hb5)
        clear hb5
        go_wp2_with fail
        refine hK.out _ _ ?hSu1 (fun hHeld => ?restu1)
        case hSu1 => exact H5.out.2.2.2.1
        clear hK K
        refine wpAnyH_ready (rs := [3]) (by kernel_rfl) (by simp) ?_
        refine AllReadyH.cons rfl (fun K hK => ?_) AllReadyH.nil
        go_simp
        refine (num_any _ n M' _ H5.out.2.2.1).mono ?_
        rintro e w6 ⟨rfl, hb6⟩
        have H6 := Lib.hid (H5.out.keep hb6)
        clear hb6
        go_wp2_with fail
        refine hK.out _ _ ?hSu3 (fun hHeld => ?restu3)
        case hSu3 => exact H6.out.2.2.2.1
        clear hK K
        refine wpAnyH_take (i := 4) (v := ?vu4) rfl (by kernel_rfl) (by kernel_rfl) (by kernel_rfl) (fun _ _ _ h => h) (Or.inl ⟨by kernel_rfl, fun w' hSw => ?hyu4⟩) (by assumption) ?restu4
        case hyu4 => ((try dsimp only at hSw); go_simp; (try with_reducible rfl))
        simp only [Act.put]
        refine wpAnyH_take (i := 5) (v := ?vu5) rfl (by kernel_rfl) (by kernel_rfl) (by kernel_rfl) (fun _ _ _ h => h) (Or.inl ⟨by kernel_rfl, fun w' hSw => ?hyu5⟩) (by assumption) ?restu5
        case hyu5 => ((try dsimp only at hSw); go_simp; (try with_reducible rfl))
        simp only [Act.put]
        refine wpAnyH_take (i := 6) (v := ?vu6) rfl (by kernel_rfl) (by kernel_rfl) (by kernel_rfl) (fun _ _ _ h => h) (Or.inl ⟨by kernel_rfl, fun w' hSw => ?hyu6⟩) (by assumption) ?restu6
        case hyu6 => ((try dsimp only at hSw); go_simp; (try with_reducible rfl))
        simp only [Act.put]
        refine wpAnyH_take (i := 7) (v := ?vu7) rfl (by kernel_rfl) (by kernel_rfl) (by kernel_rfl) (fun _ _ _ h => h) (Or.inl ⟨by kernel_rfl, fun w' hSw => ?hyu7⟩) (by assumption) ?restu7
        case hyu7 => ((try dsimp only at hSw); go_simp; (try with_reducible rfl))
        simp only [Act.put]
        refine wpAnyH_take (i := 8) (v := ?vu8) rfl (by kernel_rfl) (by kernel_rfl) (by kernel_rfl) (fun _ _ _ h => h) (Or.inl ⟨by kernel_rfl, fun w' hSw => ?hyu8⟩) (by assumption) ?restu8
        case hyu8 => ((try dsimp only at hSw); go_simp; (try with_reducible rfl))
        simp only [Act.put]
        refine wpAnyH_take (i := 9) (v := ?vu9) rfl (by kernel_rfl) (by kernel_rfl) (by kernel_rfl) (fun _ _ _ h => h) (Or.inl ⟨by kernel_rfl, fun w' hSw => ?hyu9⟩) (by assumption) ?restu9
        case hyu9 => ((try dsimp only at hSw); go_simp; (try with_reducible rfl))
        simp only [Act.put]
        refine wpAnyH_take (i := 10) (v := ?vu10) rfl (by kernel_rfl) (by kernel_rfl) (by kernel_rfl) (fun _ _ _ h => h) (Or.inl ⟨by kernel_rfl, fun w' hSw => ?hyu10⟩) (by assumption) ?restu10
        case hyu10 => ((try dsimp only at hSw); go_simp; (try with_reducible rfl))
        simp only [Act.put]
        refine wpAnyH_take (i := 11) (v := ?vu11) rfl (by kernel_rfl) (by kernel_rfl) (by kernel_rfl) (fun _ _ _ h => h) (Or.inl ⟨by kernel_rfl, fun w' hSw => ?hyu11⟩) (by assumption) ?restu11
        case hyu11 => ((try dsimp only at hSw); go_simp; (try with_reducible rfl))
        simp only [Act.put]
        refine wpAnyH_take (i := 12) (v := ?vu12) rfl (by kernel_rfl) (by kernel_rfl) (by kernel_rfl) (fun _ _ _ h => h) (Or.inl ⟨by kernel_rfl, fun w' hSw => ?hyu12⟩) (by assumption) ?restu12
        case hyu12 => ((try dsimp only at hSw); go_simp; (try with_reducible rfl))
        simp only [Act.put]
        refine wpAnyH_take (i := 13) (v := ?vu13) rfl (by kernel_rfl) (by kernel_rfl) (by kernel_rfl) (fun _ _ _ h => h) (Or.inl ⟨by kernel_rfl, fun w' hSw => ?hyu13⟩) (by assumption) ?restu13
        case hyu13 => ((try dsimp only at hSw); go_simp; (try with_reducible rfl))
        simp only [Act.put]
        refine wpAnyH_ready (rs := [14]) (by kernel_rfl) (by simp) ?_
        refine AllReadyH.cons rfl (fun K hK => ?_) AllReadyH.nil
        go_simp
        refine (equalE_any pe pe' ce ce' M M' hl hl' _ H6.out.2.2.2.2.1.1 H6.out.2.2.2.2.1.2).mono ?_
        rintro e w7 ⟨rfl, hb7⟩
        rw [HBB.out]
        have H7 := Lib.hid (H6.out.keep hb7)
        clear hb7
        go_wp2_with fail
        refine hK.out _ _ ?hSu14 (fun hHeld => ?restu14)
        case hSu14 => exact H7.out.2.2.2.1
        clear hK K
        refine wpAnyH_take (i := 15) (v := ?vu15) rfl (by kernel_rfl) (by kernel_rfl) (by kernel_rfl) (fun _ _ _ h => h) (Or.inl ⟨by kernel_rfl, fun w' hSw => ?hyu15⟩) (by assumption) ?restu15
        case hyu15 => ((try dsimp only at hSw); go_simp; (try with_reducible rfl))
        simp only [Act.put]
        refine wpAnyH_ready (rs := [16]) (by kernel_rfl) (by simp) ?_
        refine AllReadyH.cons rfl (fun K hK => ?_) AllReadyH.nil
        go_simp
        refine hK.out _ _ (by assumption) (fun hHeld => ?_)
        clear hK K
        refine wpAnyH_done (by kernel_rfl) ?_ _
        go_wp2
        go_ret
        exact ⟨bool_ret (by rw [HZ.out, HBB.out]), H7.out.1⟩
      · have HZ : Hid (sameG (some ⟨g, 0, none⟩) (some ⟨g', 0, none⟩) n n' M M' = false) := Lib.hid (by rw [HX.out]; exact decide_eq_false (fun h => hnn h.1))
        have t : ((n : Int) == (n' : Int)) = false := by rw [beq_eq_false_iff_ne]; omega
        clear HX hnn
        go_enter Tryz.func19, Tryz.ntmps19
        go_upto_region 3 with fail
        refine wp_region_held_drew (S := fun W => W.cell? ⟨g, 1, none⟩ = some (.slice pe M.length ce) ∧ W.cell? ⟨g', 1, none⟩ = some (.slice pe' M'.length ce')) (by kernel_rfl) hY (fun hHeld => ?_)
        refine wpAnyH_take (i := 0) (v := ?vd0) rfl (by kernel_rfl) (by kernel_rfl) (by kernel_rfl) (fun _ _ _ h => h) (Or.inl ⟨by kernel_rfl, fun w' hSw => ?hyd0⟩) (by assumption) ?restd0
        case hyd0 => ((try dsimp only at hSw); go_simp; (try with_reducible rfl))
        simp only [Act.put]
        refine wpAnyH_take (i := 2) (v := ?vd2) rfl (by kernel_rfl) (by kernel_rfl) (by kernel_rfl) (fun _ _ _ h => h) (Or.inl ⟨by kernel_rfl, fun w' hSw => ?hyd2⟩) (by assumption) ?restd2
        case hyd2 => ((try dsimp only at hSw); go_simp; (try with_reducible rfl))
        simp only [Act.put]
        refine wpAnyH_ready (rs := [1]) (by kernel_rfl) (by simp) ?_
        refine AllReadyH.cons rfl (fun K hK => ?_) AllReadyH.nil
        go_simp
        refine (num_any _ n M _ HS.out.2.1).mono ?_
        rintro e w5 ⟨rfl, hb5⟩
        have H5 := Lib.hid (HS.out.keep hb5)
        clear hb5
        go_wp2_with fail
        refine hK.out _ _ ?hSd1 (fun hHeld => ?restd1)
        case hSd1 => exact H5.out.2.2.2.1
        clear hK K
        refine wpAnyH_ready (rs := [3]) (by kernel_rfl) (by simp) ?_
        refine AllReadyH.cons rfl (fun K hK => ?_) AllReadyH.nil
        go_simp
        refine (num_any _ n' M' _ H5.out.2.2.1).mono ?_
        rintro e w6 ⟨rfl, hb6⟩
        have H6 := Lib.hid (H5.out.keep hb6)
        clear hb6
        go_wp2_with fail
        refine hK.out _ _ ?hSd3 (fun hHeld => ?restd3)
        case hSd3 => exact H6.out.2.2.2.1
        clear hK K
        refine wpAnyH_take (i := 4) (v := ?vd4) rfl (by kernel_rfl) (by kernel_rfl) (by kernel_rfl) (fun _ _ _ h => h) (Or.inl ⟨by kernel_rfl, fun w' hSw => ?hyd4⟩) (by assumption) ?restd4
        case hyd4 => ((try dsimp only at hSw); go_simp; (try with_reducible rfl))
        simp only [Act.put]
        refine wpAnyH_take (i := 5) (v := ?vd5) rfl (by kernel_rfl) (by kernel_rfl) (by kernel_rfl) (fun _ _ _ h => h) (Or.inl ⟨by kernel_rfl, fun w' hSw => ?hyd5⟩) (by assumption) ?restd5
        case hyd5 => ((try dsimp only at hSw); go_simp; (try with_reducible rfl))
        simp only [Act.put]
        refine wpAnyH_take (i := 6) (v := undef) rfl (by kernel_rfl) (by kernel_rfl) (by kernel_rfl) (fun _ _ _ h => h) (Or.inr ⟨by kernel_rfl, rfl⟩) (by assumption) ?_
        simp only [Act.put]
        refine wpAnyH_take (i := 7) (v := undef) rfl (by kernel_rfl) (by kernel_rfl) (by kernel_rfl) (fun _ _ _ h => h) (Or.inr ⟨by kernel_rfl, rfl⟩) (by assumption) ?_
        simp only [Act.put]
        refine wpAnyH_take (i := 8) (v := undef) rfl (by kernel_rfl) (by kernel_rfl) (by kernel_rfl) (fun _ _ _ h => h) (Or.inr ⟨by kernel_rfl, rfl⟩) (by assumption) ?_
        simp only [Act.put]
        refine wpAnyH_take (i := 9) (v := undef) rfl (by kernel_rfl) (by kernel_rfl) (by kernel_rfl) (fun _ _ _ h => h) (Or.inr ⟨by kernel_rfl, rfl⟩) (by assumption) ?_
        simp only [Act.put]
        refine wpAnyH_take (i := 10) (v := undef) rfl (by kernel_rfl) (by kernel_rfl) (by kernel_rfl) (fun _ _ _ h => h) (Or.inr ⟨by kernel_rfl, rfl⟩) (by assumption) ?_
        simp only [Act.put]
        refine wpAnyH_take (i := 11) (v := undef) rfl (by kernel_rfl) (by kernel_rfl) (by kernel_rfl) (fun _ _ _ h => h) (Or.inr ⟨by kernel_rfl, rfl⟩) (by assumption) ?_
        simp only [Act.put]
        refine wpAnyH_take (i := 12) (v := undef) rfl (by kernel_rfl) (by kernel_rfl) (by kernel_rfl) (fun _ _ _ h => h) (Or.inr ⟨by kernel_rfl, rfl⟩) (by assumption) ?_
        simp only [Act.put]
        refine wpAnyH_take (i := 13) (v := undef) rfl (by kernel_rfl) (by kernel_rfl) (by kernel_rfl) (fun _ _ _ h => h) (Or.inr ⟨by kernel_rfl, rfl⟩) (by assumption) ?_
        simp only [Act.put]
        refine wpAnyH_take (i := 14) (v := undef) rfl (by kernel_rfl) (by kernel_rfl) (by kernel_rfl) (fun _ _ _ h => h) (Or.inr ⟨by kernel_rfl, rfl⟩) (by assumption) ?_
        simp only [Act.put]
        refine wpAnyH_take (i := 15) (v := ?vd15) rfl (by kernel_rfl) (by kernel_rfl) (by kernel_rfl) (fun _ _ _ h => h) (Or.inl ⟨by kernel_rfl, fun w' hSw => ?hyd15⟩) (by assumption) ?restd15
        case hyd15 => ((try dsimp only at hSw); go_simp; (try with_reducible rfl))
        simp only [Act.put]
        refine wpAnyH_ready (rs := [16]) (by kernel_rfl) (by simp) ?_
        refine AllReadyH.cons rfl (fun K hK => ?_) AllReadyH.nil
        go_simp
        refine hK.out _ _ (by assumption) (fun hHeld => ?_)
        clear hK K
        refine wpAnyH_done (by kernel_rfl) ?_ _
        go_wp2
        go_ret
        exact ⟨bool_ret HZ.out.symm, H6.out.1⟩
end Go.Proofs.YtdbebebhldldmaaGreatDoor
