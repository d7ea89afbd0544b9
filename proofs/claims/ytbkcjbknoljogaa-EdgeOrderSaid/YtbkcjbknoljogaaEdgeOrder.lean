/- Edges that may be, turned round and from the last one to the first, are merged to the same; merged again, or split and merged, that is the same; each is in its normal form, and weighs something; they rise. Conditions: none: every slice of edges (of edges that may not be, and of more than a hundred, the law asks only that the program merges edges at all). -/
import Derived.Test.YtbkcjbknoljogaaEdgeMerges
import Derived.Test.YtbkcjbknoljogaaEdOrd
namespace Go.Proofs.Ytbkcjbknoljogaa.edgeOrder
open Go.ChangeShapes Go.WideShapes Go.ChangeAt Go.RowKit EdPure NumPure
theorem ok_snoc {l : List Ed} {k : Nat} (hk : k < l.length) : okL (l.take (k + 1)) = (okL (l.take k) && okE l[k]) := by
  unfold okL
  rw [List.take_succ_eq_append_getElem hk, List.all_append]
  simp
def MayRel (W : World) (l : List Ed) (k : Nat) (b : Bool) (w : World) : Prop := k ≤ l.length ∧ okL (l.take k) = b ∧ Below W.heap.size W w
theorem MayRel.next {W w w' : World} {l : List Ed} {k : Nat} {b b' : Bool} (h : MayRel W l k b w) (hk : k < l.length) (hb : Below w.heap.size w w') (he : (b && okE l[k]) = b') : MayRel W l (k + 1) b' w' :=
  ⟨hk, by rw [ok_snoc hk, h.2.1, he], h.2.2.trans (hb.mono h.2.2.size)⟩
theorem turn_at {l : List Ed} {k : Nat} (hk : k < l.length) {j : Nat} (hj : j = l.length - 1 - k) : (turnL l).take (k + 1) = (turnL l).take k ++ [turnE (l[j]'(by omega))] := by
  subst hj
  rw [List.take_succ_eq_append_getElem (by rw [turn_len]; exact hk)]
  congr 2
  unfold turnL
  rw [List.getElem_reverse, List.getElem_map]
  congr 2
  simp
theorem cmp_below (a b : Ed) (w : World) : Calls Try.prog 13 #[encE a, encE b] w fun e w' => e = .returned (.int .i64 (cmpE a b)) ∧ Below w.heap.size w w' := by
  refine (cmp_any a b w).mono ?_
  rintro e w' ⟨rfl, q, os, rfl⟩
  exact ⟨rfl, rfl, rfl, rfl, by simp [Go.Sort.grow, World.drewN], fun k hk => by
    show (w.heap ++ os)[k]? = w.heap[k]?
    rw [Array.getElem?_append_left hk]⟩
theorem merge_some (a : Option Addr) (c : Nat) {l A : List Ed} (hl : l.length ≤ 100000) (hI : InL l) (w : World) (hR : ReadsE w.heap.size w a l) (h : mergeE l = some A) :
    Calls Try.prog 19 #[.slice a l.length c] w fun e w' => Below w.heap.size w w' ∧ ∃ q cap, e = .returned (.tuple #[.slice q A.length cap, .bool true]) ∧ ReadsE w'.heap.size w' q A := by
  have := edgeMerges.merge_u a c l hl hI w hR
  unfold edgeMerges.mL edgeMerges.mB at this
  rw [h] at this
  exact this
theorem split_some (a : Option Addr) (c : Nat) {l : List Ed} (hl : l.length ≤ 100000) (hI : InL l) (w : World) (hR : ReadsE w.heap.size w a l) (h : splitB l = true) :
    Calls Try.prog 21 #[.slice a l.length c] w fun e w' => Below w.heap.size w w' ∧ ∃ q cap, e = .returned (.tuple #[.slice q (splitL l).length cap, .bool true]) ∧ ReadsE w'.heap.size w' q (splitL l) := by
  have := split_any a c l (by omega) hI w hR
  unfold SplitOut at this
  rw [splitR_yes h, h] at this
  exact this
def OrdSt (W : World) (A : List Ed) (qa qb qc qd : Option Addr) (w : World) : Prop := Below W.heap.size W w ∧ ReadsE w.heap.size w qa A ∧ ReadsE w.heap.size w qb A ∧ ReadsE w.heap.size w qc A ∧ ReadsE w.heap.size w qd A
section
variable {W w w' : World} {A : List Ed} {qa qb qc qd : Option Addr}
theorem OrdSt.keep (h : OrdSt W A qa qb qc qd w) (hb : Below w.heap.size w w') : OrdSt W A qa qb qc qd w' :=
  ⟨h.1.trans (hb.mono h.1.size), h.2.1.over hb (Nat.le_refl _), h.2.2.1.over hb (Nat.le_refl _), h.2.2.2.1.over hb (Nat.le_refl _), h.2.2.2.2.over hb (Nat.le_refl _)⟩
end
theorem ord_keep6 {W w w' : World} {A : List Ed} {qb qc qd : Option Addr} {b off j k : Nat} (hj : j < A.length) (hk : k < A.length) {u v x p q y : Int} (he : Hid (A[j] = (p, q, y) ∧ A[k] = (u, v, x))) (h : Hid (OrdSt W A (some ⟨b, off, none⟩) qb qc qd w)) (hb : Below w.heap.size w w') :
    w'.cell? ⟨b, off + j * 3, none⟩ = some (.int .i64 p) ∧ w'.cell? ⟨b, off + j * 3 + 1, none⟩ = some (.int .i64 q) ∧ w'.cell? ⟨b, off + j * 3 + 2, none⟩ = some (.int .i64 y) ∧ w'.cell? ⟨b, off + k * 3, none⟩ = some (.int .i64 u) ∧ w'.cell? ⟨b, off + k * 3 + 1, none⟩ = some (.int .i64 v) ∧ w'.cell? ⟨b, off + k * 3 + 2, none⟩ = some (.int .i64 x) ∧ Hid (OrdSt W A (some ⟨b, off, none⟩) qb qc qd w') := by
  have h' := h.out.keep hb
  obtain ⟨b1, o1, e1, -, -, c0, c1, c2⟩ := h'.2.1.cells hj (Below.refl _ _) he.out.1
  obtain ⟨b2, o2, e2, -, -, d0, d1, d2⟩ := h'.2.1.cells hk (Below.refl _ _) he.out.2
  cases e1
  cases e2
  exact ⟨c0, c1, c2, d0, d1, d2, Lib.hid h'⟩
def TurnRel (w0 : World) (l : List Ed) (z : Int) (s : Value) (wr : World) : Prop := ∃ k, k ≤ l.length ∧ z = (l.length : Int) - 1 - k ∧ GrowE w0 ((turnL l).take k) s wr
set_option maxRecDepth 100000 in
set_option maxHeartbeats 4000000 in
theorem walk_list (a : Option Addr) (cap : Nat) (l : List Ed) (W : World) (h1 : EdIn W a l) (_h2 : l.length ≤ maxLen) :
    Calls Try.prog 5 #[.slice a l.length cap] W fun r w' => r = .returned (.bool true) ∧ Below W.heap.size W w' := by
  by_cases hlen : l.length ≤ 100
  · have i1 : ¬ (l.length : Int) > 100 := by omega
    have HI := Lib.hid h1.1
    have HR := Lib.hid h1.2
    clear h1
    go_enter Try.func5, Try.ntmps5
    go_wp2
    go_loopw [3, 4, 5] (fun n d i wr => ∃ (z : Int) (b : Bool) (k : Nat), n = .int .i64 z ∧ d = .bool b ∧ i = .int .i64 k ∧ Hid (MayRel W l k b wr)) (fun _ _ i _ => l.length - (intOf i).toNat)
    case atStart => exact ⟨0, true, 0, rfl, rfl, rfl, Lib.hid ⟨Nat.zero_le _, by rw [List.take_zero]; rfl, Below.refl _ _⟩⟩
    case round =>
      obtain ⟨z, d, k, rfl, rfl, rfl, HK⟩ := hrel
      have i0 : (0 : Int) ≤ (k : Int) := by omega
      by_cases hlt : k < l.length
      · have i2 : (k : Int) < (l.length : Int) := by omega
        obtain ⟨u, v, x, he⟩ : ∃ u v x, l[k] = (u, v, x) := ⟨_, _, _, rfl⟩
        obtain ⟨b, off, rfl, hbw, hbr, c0, c1, c2⟩ := HR.out.cells hlt HK.out.2.2 he
        have HE := Lib.hid he
        clear he
        cases d
        · have HB2 : Hid ((false && okE l[k]) = false) := Lib.hid (Bool.false_and _)
          go_wp2
          go_quiet (fail)
          go_wp2
          exact ⟨⟨_, false, k + 1, rfl, rfl, by go_num, Lib.hid (HK.out.next hlt (below_drewN (Below.refl _ _) _) HB2.out)⟩, by simp [intOf]; omega⟩
        · by_cases h1 : 0 ≤ u
          · by_cases h2 : 0 ≤ v
            · by_cases h3 : 0 ≤ x
              · have HB2 : Hid ((true && okE l[k]) = decide (x ≤ 2147483648)) := Lib.hid (by rw [HE.out]; unfold okE; simp [h1, h2, h3])
                go_wp2
                go_quiet (fail)
                go_wp2
                exact ⟨⟨_, decide (x ≤ 2147483648), k + 1, rfl, rfl, by go_num, Lib.hid (HK.out.next hlt (below_drewN (Below.refl _ _) _) HB2.out)⟩, by simp [intOf]; omega⟩
              · have HB2 : Hid ((true && okE l[k]) = false) := Lib.hid (by rw [HE.out]; unfold okE; simp [h3])
                go_wp2
                go_quiet (fail)
                go_wp2
                exact ⟨⟨_, false, k + 1, rfl, rfl, by go_num, Lib.hid (HK.out.next hlt (below_drewN (Below.refl _ _) _) HB2.out)⟩, by simp [intOf]; omega⟩
            · have HB2 : Hid ((true && okE l[k]) = false) := Lib.hid (by rw [HE.out]; unfold okE; simp [h2])
              go_wp2
              go_quiet (fail)
              go_wp2
              exact ⟨⟨_, false, k + 1, rfl, rfl, by go_num, Lib.hid (HK.out.next hlt (below_drewN (Below.refl _ _) _) HB2.out)⟩, by simp [intOf]; omega⟩
          · have HB2 : Hid ((true && okE l[k]) = false) := Lib.hid (by rw [HE.out]; unfold okE; simp [h1])
            go_wp2
            go_quiet (fail)
            go_wp2
            exact ⟨⟨_, false, k + 1, rfl, rfl, by go_num, Lib.hid (HK.out.next hlt (below_drewN (Below.refl _ _) _) HB2.out)⟩, by simp [intOf]; omega⟩
      · have hk : k = l.length := by have := HK.out.1; omega
        subst hk
        cases d
        · have HB1 := Lib.hid HK.out.2.2
          go_wp2_with fail
          refine (awake_any _).mono ?_
          rintro e w1 ⟨rfl, hb1⟩
          have HB2 := Lib.hid (HB1.out.trans (hb1.mono HB1.out.size))
          clear hb1
          go_wp2
          go_ret
          exact ⟨rfl, HB2.out⟩
        · have hok : okL l = true := by have := HK.out.2.1; rwa [List.take_length] at this
          obtain ⟨A, a1, a2, a3, a4, a5, a6, a7, a8, a9, a10⟩ := order_all HI.out hok hlen
          have HA := Lib.hid (And.intro a1 (And.intro a2 (And.intro a3 (And.intro a4 (And.intro a5 (And.intro a6 (And.intro a7 (And.intro a9 a10))))))))
          obtain ⟨W0, hW0⟩ : ∃ W0, W0 = wr := ⟨_, rfl⟩
          have HB0 : Hid (Below W.heap.size W W0) := Lib.hid (by rw [hW0]; exact HK.out.2.2)
          subst hW0
          have HS : Hid (TurnRel W0 l ((l.length : Int) - 1) (.slice none 0 0) W0) := Lib.hid ⟨0, Nat.zero_le _, by simp, by rw [List.take_zero]; exact GrowE.start W0⟩
          clear a1 a2 a3 a4 a5 a6 a7 a9 a10 hok HK hlt
          go_wp2
          go_loopw [6, 7] (fun s i wr => ∃ (z : Int) (s' : Value), s' = s ∧ i = .int .i64 z ∧ Hid (TurnRel W0 l z s' wr)) (fun _ i _ => (intOf i + 1).toNat)
          case atStart => exact ⟨_, _, rfl, rfl, HS⟩
          case round =>
            obtain ⟨z, s, rfl, rfl, HT⟩ := hrel
            clear HS
            by_cases hz : 0 ≤ z
            · obtain ⟨j, rfl⟩ : ∃ j : Nat, z = (j : Int) := ⟨z.toNat, by omega⟩
              obtain ⟨k, hk1, hk2, hG0⟩ := HT.out
              have hkl : k < l.length := by omega
              have hj : j < l.length := by omega
              have hjk : j = l.length - 1 - k := by omega
              have i0 : (0 : Int) ≤ (j : Int) := hz
              have i2 : (j : Int) < (l.length : Int) := by omega
              obtain ⟨u, v, x, he⟩ : ∃ u v x, l[j] = (u, v, x) := ⟨_, _, _, rfl⟩
              obtain ⟨G, hGG⟩ : ∃ G, G = (turnL l).take k := ⟨_, rfl⟩
              have HTK : Hid ((turnL l).take (k + 1) = G ++ [(v, u, x)]) := Lib.hid (by
                rw [turn_at hkl hjk, hGG]
                have : turnE (l[l.length - 1 - k]'(by omega)) = (v, u, x) := by
                  have e2 : l[l.length - 1 - k]'(by omega) = l[j] := by congr 1; exact hjk.symm
                  rw [e2, he]; rfl
                simp only [hjk, this])
              have hlenG : G.length ≤ 100 := by rw [hGG, List.length_take, turn_len]; omega
              rw [← hGG] at hG0
              obtain ⟨b, off, rfl, hbw, hbr2, e0, e1, e2⟩ := HR.out.cells hj (HB0.out.trans (hG0.1.mono HB0.out.size)) he
              have HE := Lib.hid he
              have HG := Lib.hid hG0
              have HKK := Lib.hid (And.intro hkl hk2)
              obtain ⟨i9, hi, hz0, hz1, hz2⟩ := info_edge
              clear he hG0 hGG hjk hk1 hk2 hz HT
              go_wp2
              have hkeep : Hid (∀ W', Below W0.heap.size W0 W' → W'.cell? ⟨b, off + j * 3, none⟩ = some (.int .i64 u) ∧ W'.cell? ⟨b, off + j * 3 + 1, none⟩ = some (.int .i64 v) ∧ W'.cell? ⟨b, off + j * 3 + 2, none⟩ = some (.int .i64 x) ∧ Hid (Below W0.heap.size W0 W')) := Lib.hid fun W' h => by
                obtain ⟨b4, off4, hab, -, -, q0, q1, q2⟩ := HR.out.cells hj (HB0.out.trans (h.mono HB0.out.size)) HE.out
                cases hab
                exact ⟨q0, q1, q2, Lib.hid h⟩
              have HG2 : Hid (GrowE W0 G s wr.drew) := Lib.hid (HG.out.on (below_drewN (Below.refl _ _) 1))
              have hb2 : b < wr.drew.heap.size := hbr2
              have hbs : W0.heap.size ≤ wr.drew.heap.size := HG2.out.1.size
              clear e0 e1 e2 hbr2 HG
              refine wp_region_held_drew (S := (fun W' => W'.cell? ⟨b, off + j * 3, none⟩ = some (.int .i64 u) ∧ W'.cell? ⟨b, off + j * 3 + 1, none⟩ = some (.int .i64 v) ∧ W'.cell? ⟨b, off + j * 3 + 2, none⟩ = some (.int .i64 x) ∧ Hid (Below W0.heap.size W0 W'))) (by kernel_rfl) (hkeep.out _ HG2.out.1) (fun hHeld => ?_)
              generalize wr.drew = W1 at *
              refine wpAnyH_take (i := 0) (v := ?va0) rfl (by kernel_rfl) (by kernel_rfl) (by kernel_rfl) (fun _ _ _ h => h) (Or.inl ⟨by kernel_rfl, fun w' hSw => ?hya0⟩) (by assumption) ?resta0
              case hya0 => ((try dsimp only at hSw); go_simp; (try with_reducible rfl))
              simp only [Act.put]
              refine wpAnyH_take (i := 1) (v := ?va1) rfl (by kernel_rfl) (by kernel_rfl) (by kernel_rfl) (fun _ _ _ h => h) (Or.inl ⟨by kernel_rfl, fun w' hSw => ?hya1⟩) (by assumption) ?resta1
              case hya1 => ((try dsimp only at hSw); go_simp; (try with_reducible rfl))
              simp only [Act.put]
              refine wpAnyH_take (i := 2) (v := ?va2) rfl (by kernel_rfl) (by kernel_rfl) (by kernel_rfl) (fun _ _ _ h => h) (Or.inl ⟨by kernel_rfl, fun w' hSw => ?hya2⟩) (by assumption) ?resta2
              case hya2 => ((try dsimp only at hSw); go_simp; (try with_reducible rfl))
              simp only [Act.put]
              refine wpAnyH_take (i := 3) (v := ?va3) rfl (by kernel_rfl) (by kernel_rfl) (by kernel_rfl) (fun _ _ _ h => h) (Or.inl ⟨by kernel_rfl, fun w' hSw => ?hya3⟩) (by assumption) ?resta3
              case hya3 => ((try dsimp only at hSw); go_simp; (try with_reducible rfl))
              simp only [Act.put]
              refine wpAnyH_take (i := 4) (v := ?va4) rfl (by kernel_rfl) (by kernel_rfl) (by kernel_rfl) (fun _ _ _ h => h) (Or.inl ⟨by kernel_rfl, fun w' hSw => ?hya4⟩) (by assumption) ?resta4
              case hya4 => ((try dsimp only at hSw); go_simp; (try with_reducible rfl))
              simp only [Act.put]
              refine wpAnyH_take (i := 5) (v := ?va5) rfl (by kernel_rfl) (by kernel_rfl) (by kernel_rfl) (fun _ _ _ h => h) (Or.inl ⟨by kernel_rfl, fun w' hSw => ?hya5⟩) (by assumption) ?resta5
              case hya5 => ((try dsimp only at hSw); go_simp; (try with_reducible rfl))
              simp only [Act.put]
              refine wpAnyH_take (i := 6) (v := ?va6) rfl (by kernel_rfl) (by kernel_rfl) (by kernel_rfl) (fun _ _ _ h => h) (Or.inl ⟨by kernel_rfl, fun w' hSw => ?hya6⟩) (by assumption) ?resta6
              case hya6 => ((try dsimp only at hSw); go_simp; (try with_reducible rfl))
              simp only [Act.put]
              refine wpAnyH_take (i := 7) (v := ?va7) rfl (by kernel_rfl) (by kernel_rfl) (by kernel_rfl) (fun _ _ _ h => h) (Or.inl ⟨by kernel_rfl, fun w' hSw => ?hya7⟩) (by assumption) ?resta7
              case hya7 => ((try dsimp only at hSw); go_simp; (try with_reducible rfl))
              simp only [Act.put]
              refine wpAnyH_take (i := 8) (v := ?va8) rfl (by kernel_rfl) (by kernel_rfl) (by kernel_rfl) (fun _ _ _ h => h) (Or.inl ⟨by kernel_rfl, fun w' hSw => ?hya8⟩) (by assumption) ?resta8
              case hya8 => ((try dsimp only at hSw); go_simp; (try with_reducible rfl))
              simp only [Act.put]
              refine wpAnyH_take (i := 9) (v := ?va9) rfl (by kernel_rfl) (by kernel_rfl) (by kernel_rfl) (fun _ _ _ h => h) (Or.inl ⟨by kernel_rfl, fun w' hSw => ?hya9⟩) (by assumption) ?resta9
              case hya9 => ((try dsimp only at hSw); go_simp; (try with_reducible rfl))
              simp only [Act.put]
              refine wpAnyH_take (i := 10) (v := ?va10) rfl (by kernel_rfl) (by kernel_rfl) (by kernel_rfl) (fun _ _ _ h => h) (Or.inl ⟨by kernel_rfl, fun w' hSw => ?hya10⟩) (by assumption) ?resta10
              case hya10 => ((try dsimp only at hSw); go_simp; (try with_reducible rfl))
              simp only [Act.put]
              refine wpAnyH_take (i := 11) (v := ?va11) rfl (by kernel_rfl) (by kernel_rfl) (by kernel_rfl) (fun _ _ _ h => h) (Or.inl ⟨by kernel_rfl, fun w' hSw => ?hya11⟩) (by assumption) ?resta11
              case hya11 => ((try dsimp only at hSw); go_simp; (try with_reducible rfl))
              simp only [Act.put]
              refine wpAnyH_take (i := 12) (v := ?va12) rfl (by kernel_rfl) (by kernel_rfl) (by kernel_rfl) (fun _ _ _ h => h) (Or.inl ⟨by kernel_rfl, fun w' hSw => ?hya12⟩) (by assumption) ?resta12
              case hya12 => ((try dsimp only at hSw); go_simp; (try with_reducible rfl))
              simp only [Act.put]
              refine wpAnyH_take (i := 13) (v := ?va13) rfl (by kernel_rfl) (by kernel_rfl) (by kernel_rfl) (fun _ _ _ h => h) (Or.inl ⟨by kernel_rfl, fun w' hSw => ?hya13⟩) (by assumption) ?resta13
              case hya13 => ((try dsimp only at hSw); go_simp; (try with_reducible rfl))
              simp only [Act.put]
              refine wpAnyH_take (i := 14) (v := ?va14) rfl (by kernel_rfl) (by kernel_rfl) (by kernel_rfl) (fun _ _ _ h => h) (Or.inl ⟨by kernel_rfl, fun w' hSw => ?hya14⟩) (by assumption) ?resta14
              case hya14 => ((try dsimp only at hSw); go_simp; (try with_reducible rfl))
              simp only [Act.put]
              refine wpAnyH_take (i := 15) (v := ?va15) rfl (by kernel_rfl) (by kernel_rfl) (by kernel_rfl) (fun _ _ _ h => h) (Or.inl ⟨by kernel_rfl, fun w' hSw => ?hya15⟩) (by assumption) ?resta15
              case hya15 => ((try dsimp only at hSw); go_simp; (try with_reducible rfl))
              simp only [Act.put]
              refine wpAnyH_take (i := 16) (v := ?va16) rfl (by kernel_rfl) (by kernel_rfl) (by kernel_rfl) (fun _ _ _ h => h) (Or.inl ⟨by kernel_rfl, fun w' hSw => ?hya16⟩) (by assumption) ?resta16
              case hya16 => ((try dsimp only at hSw); go_simp; (try with_reducible rfl))
              simp only [Act.put]
              refine wpAnyH_ready (rs := [17]) (by kernel_rfl) (by simp) ?_
              refine AllReadyH.cons rfl (fun K hK => ?_) AllReadyH.nil
              go_simp
              refine hK.out _ _ (hkeep.out _ (HG2.out.1.alloc HG2.out.1.size _)) (fun hHeld => ?_)
              clear hK K
              refine wpAnyH_ready (rs := [18]) (by kernel_rfl) (by simp) ?_
              refine AllReadyH.cons rfl (fun K hK => ?_) AllReadyH.nil
              rw [if_pos (by kernel_rfl)]
              refine wp_append_own _ _ _ 22 rfl W0.heap.size 24 i9 (.agg #[.int .i64 0, .int .i64 0, .int .i64 0]) 3 24 Try.underlying22 hi hz0 hz1 hz2 rfl (by decide) s G.length (flatE G) rfl (HG2.out.2.alloc _) ⟨W1.heap.size, 0, none⟩ 1 1 (cellE (v, u, x)) rfl rfl (three_newsAt rfl) ones_edge (by unfold maxLen; omega) (by omega) (by simp; omega) ?_
              intro s3 w3 hown hg _
              have HZ := Lib.hid (HG2.out.step (v, u, x) hown hg)
              clear hown hg hHeld
              refine hK.out _ _ (hkeep.out _ HZ.out.1) (fun hHeld => ?_)
              clear hK K
              simp only [Act.put]
              refine wpAnyH_ready (rs := [19]) (by kernel_rfl) (by simp) ?_
              refine AllReadyH.cons rfl (fun K hK => ?_) AllReadyH.nil
              go_simp
              refine hK.out _ _ hHeld (fun hHeld => ?_)
              clear hK K hkeep hHeld
              refine wpAnyH_done (by kernel_rfl) ?_ _
              go_wp2
              exact ⟨⟨(j : Int) - 1, s3, rfl, rfl, Lib.hid ⟨k + 1, HKK.out.1, by have := HKK.out.2; omega, by rw [HTK.out]; exact HZ.out⟩⟩, by simp [intOf]⟩
            · obtain ⟨k, hk1, hk2, hG0⟩ := HT.out
              have hk : k = l.length := by omega
              rw [hk, ← turn_len l, List.take_length] at hG0
              obtain ⟨qt, ct, rfl, hrt, -⟩ := hG0.reads
              have hBv := HB0.out.trans (hG0.1.mono HB0.out.size)
              have HBv := Lib.hid hBv
              have HRL := Lib.hid (HR.out.over hBv (Nat.le_refl _))
              have HRT := Lib.hid hrt
              have HIA : Hid (InL A) := Lib.hid fun x hx => (HA.out.2.2.2.2.2.1.2 x hx).2
              clear hk1 hk2 hG0 hk hrt hBv HT HR
              go_wp2_with fail
              refine (merge_some a cap (by omega) HI.out _ HRL.out HA.out.1).mono ?_
              rintro e w1 ⟨hb1, qa, ca, rfl, ra⟩
              have HB1 := Lib.hid (HBv.out.trans (hb1.mono HBv.out.size))
              have HRT1 := Lib.hid (HRT.out.over hb1 (Nat.le_refl _))
              have HA1 := Lib.hid ra
              clear hb1 ra HBv HRL HRT
              go_wp2_with fail
              refine (merge_some qt ct (by rw [turn_len]; omega) (turn_in HI.out) _ HRT1.out HA.out.2.1).mono ?_
              rintro e w2 ⟨hb2, qb, cb, rfl, rb⟩
              have HB2 := Lib.hid (HB1.out.trans (hb2.mono HB1.out.size))
              have HA2 := Lib.hid (HA1.out.over hb2 (Nat.le_refl _))
              have HC2 := Lib.hid rb
              clear hb2 rb HB1 HRT1 HA1
              go_wp2_with fail
              refine (merge_some qa ca (by omega) HIA.out _ HA2.out HA.out.2.2.1).mono ?_
              rintro e w3 ⟨hb3, qc, cc, rfl, rc⟩
              have HB3 := Lib.hid (HB2.out.trans (hb3.mono HB2.out.size))
              have HA3 := Lib.hid (HA2.out.over hb3 (Nat.le_refl _))
              have HC3 := Lib.hid (HC2.out.over hb3 (Nat.le_refl _))
              have HD3 := Lib.hid rc
              clear hb3 rc HB2 HA2 HC2
              go_wp2_with fail
              refine (split_some qa ca (by omega) HIA.out _ HA3.out HA.out.2.2.2.1).mono ?_
              rintro e w4 ⟨hb4, qs, cs, rfl, rs⟩
              have HB4 := Lib.hid (HB3.out.trans (hb4.mono HB3.out.size))
              have HA4 := Lib.hid (HA3.out.over hb4 (Nat.le_refl _))
              have HC4 := Lib.hid (HC3.out.over hb4 (Nat.le_refl _))
              have HD4 := Lib.hid (HD3.out.over hb4 (Nat.le_refl _))
              have HS4 := Lib.hid rs
              clear hb4 rs HB3 HA3 HC3 HD3
              go_wp2_with fail
              refine (merge_some qs cs HA.out.2.2.2.2.2.2.2.1 HA.out.2.2.2.2.2.2.2.2 _ HS4.out HA.out.2.2.2.2.1).mono ?_
              rintro e w5 ⟨hb5, qd, cd, rfl, rd⟩
              have HO : Hid (OrdSt W A qa qb qc qd w5) := Lib.hid ⟨HB4.out.trans (hb5.mono HB4.out.size), HA4.out.over hb5 (Nat.le_refl _), HC4.out.over hb5 (Nat.le_refl _), HD4.out.over hb5 (Nat.le_refl _), rd⟩
              clear hb5 rd HB4 HA4 HC4 HD4 HS4 HI HB0
              go_wp2
              go_loopw [18] (fun i wr => ∃ k : Nat, i = .int .i64 k ∧ Hid (k ≤ A.length ∧ OrdSt W A qa qb qc qd wr)) (fun i _ => A.length - (intOf i).toNat)
              case atStart => exact ⟨0, rfl, Lib.hid ⟨Nat.zero_le _, HO.out⟩⟩
              case round =>
                obtain ⟨k, rfl, HK⟩ := hrel
                clear HO
                have i0 : (0 : Int) ≤ (k : Int) := by omega
                by_cases hlt : k < A.length
                · have i2 : (k : Int) < (A.length : Int) := by omega
                  obtain ⟨u, v, x, he⟩ : ∃ u v x, A[k] = (u, v, x) := ⟨_, _, _, rfl⟩
                  have hx : 0 < x := by have := HA.out.2.2.2.2.2.2.1 _ (List.getElem_mem hlt); rwa [he] at this
                  have huv : u < v := by have := (HA.out.2.2.2.2.2.1.2 _ (List.getElem_mem hlt)).1; rwa [he] at this
                  obtain ⟨b, off, rfl, hbw, hbr, c0, c1, c2⟩ := HK.out.2.2.1.cells hlt (Below.refl _ _) he
                  have g1 : decide (v ≤ u) = false := decide_eq_false (by omega)
                  have g2 : decide (x ≤ 0) = false := decide_eq_false (by omega)
                  rcases Nat.eq_zero_or_pos k with rfl | hk0
                  ·
                    simp only [Nat.zero_mul, Nat.add_zero] at c0 c1 c2
                    have HE := Lib.hid he
                    have HS := Lib.hid HK.out.2
                    have hkeep : Hid (∀ w', Below wr.heap.size wr w' → w'.cell? ⟨b, off, none⟩ = some (.int .i64 u) ∧ w'.cell? ⟨b, off + 1, none⟩ = some (.int .i64 v) ∧ w'.cell? ⟨b, off + 2, none⟩ = some (.int .i64 x) ∧ Hid (OrdSt W A (some ⟨b, off, none⟩) qb qc qd w')) := Lib.hid fun w' h =>
                      ⟨(h.cell (p := ⟨b, off, none⟩) hbr).trans c0, (h.cell (p := ⟨b, off + 1, none⟩) hbr).trans c1, (h.cell (p := ⟨b, off + 2, none⟩) hbr).trans c2, Lib.hid (HS.out.keep h)⟩
                    have hb2 : b < wr.drew.heap.size := hbr
                    clear he
                    go_wp2
                    refine wp_region_held_drew (S := (fun w' => w'.cell? ⟨b, off, none⟩ = some (.int .i64 u) ∧ w'.cell? ⟨b, off + 1, none⟩ = some (.int .i64 v) ∧ w'.cell? ⟨b, off + 2, none⟩ = some (.int .i64 x) ∧ Hid (OrdSt W A (some ⟨b, off, none⟩) qb qc qd w'))) (by kernel_rfl) (hkeep.out _ ((Below.refl _ _).drew)) (fun hHeld => ?_)
                    clear hkeep HS c0 c1 c2 HK
                    generalize wr.drew = W1 at *
                    refine wpAnyH_take (i := 0) (v := ?vz0) rfl (by kernel_rfl) (by kernel_rfl) (by kernel_rfl) (fun _ _ _ h => h) (Or.inl ⟨by kernel_rfl, fun w' hSw => ?hyz0⟩) (by assumption) ?restz0
                    case hyz0 => ((try dsimp only at hSw); go_simp; (try with_reducible rfl))
                    simp only [Act.put]
                    refine wpAnyH_take (i := 1) (v := ?vz1) rfl (by kernel_rfl) (by kernel_rfl) (by kernel_rfl) (fun _ _ _ h => h) (Or.inl ⟨by kernel_rfl, fun w' hSw => ?hyz1⟩) (by assumption) ?restz1
                    case hyz1 => ((try dsimp only at hSw); go_simp; (try with_reducible rfl))
                    simp only [Act.put]
                    refine wpAnyH_take (i := 2) (v := ?vz2) rfl (by kernel_rfl) (by kernel_rfl) (by kernel_rfl) (fun _ _ _ h => h) (Or.inl ⟨by kernel_rfl, fun w' hSw => ?hyz2⟩) (by assumption) ?restz2
                    case hyz2 => ((try dsimp only at hSw); go_simp; (try with_reducible rfl))
                    simp only [Act.put]
                    refine wpAnyH_take (i := 3) (v := ?vz3) rfl (by kernel_rfl) (by kernel_rfl) (by kernel_rfl) (fun _ _ _ h => h) (Or.inl ⟨by kernel_rfl, fun w' hSw => ?hyz3⟩) (by assumption) ?restz3
                    case hyz3 => ((try dsimp only at hSw); go_simp; (try with_reducible rfl))
                    simp only [Act.put]
                    refine wpAnyH_take (i := 4) (v := ?vz4) rfl (by kernel_rfl) (by kernel_rfl) (by kernel_rfl) (fun _ _ _ h => h) (Or.inl ⟨by kernel_rfl, fun w' hSw => ?hyz4⟩) (by assumption) ?restz4
                    case hyz4 => ((try dsimp only at hSw); go_simp; (try with_reducible rfl))
                    simp only [Act.put]
                    refine wpAnyH_take (i := 5) (v := ?vz5) rfl (by kernel_rfl) (by kernel_rfl) (by kernel_rfl) (fun _ _ _ h => h) (Or.inl ⟨by kernel_rfl, fun w' hSw => ?hyz5⟩) (by assumption) ?restz5
                    case hyz5 => ((try dsimp only at hSw); go_simp; (try with_reducible rfl))
                    simp only [Act.put]
                    refine wpAnyH_take (i := 6) (v := ?vz6) rfl (by kernel_rfl) (by kernel_rfl) (by kernel_rfl) (fun _ _ _ h => h) (Or.inl ⟨by kernel_rfl, fun w' hSw => ?hyz6⟩) (by assumption) ?restz6
                    case hyz6 => ((try dsimp only at hSw); go_simp; (try with_reducible rfl))
                    simp only [Act.put]
                    refine wpAnyH_take (i := 7) (v := ?vz7) rfl (by kernel_rfl) (by kernel_rfl) (by kernel_rfl) (fun _ _ _ h => h) (Or.inl ⟨by kernel_rfl, fun w' hSw => ?hyz7⟩) (by assumption) ?restz7
                    case hyz7 => ((try dsimp only at hSw); go_simp; (try with_reducible rfl))
                    simp only [Act.put]
                    refine wpAnyH_take (i := 8) (v := ?vz8) rfl (by kernel_rfl) (by kernel_rfl) (by kernel_rfl) (fun _ _ _ h => h) (Or.inl ⟨by kernel_rfl, fun w' hSw => ?hyz8⟩) (by assumption) ?restz8
                    case hyz8 => ((try dsimp only at hSw); go_simp; (try with_reducible rfl))
                    simp only [Act.put]
                    refine wpAnyH_take (i := 9) (v := ?vz9) rfl (by kernel_rfl) (by kernel_rfl) (by kernel_rfl) (fun _ _ _ h => h) (Or.inl ⟨by kernel_rfl, fun w' hSw => ?hyz9⟩) (by assumption) ?restz9
                    case hyz9 => ((try dsimp only at hSw); go_simp; (try with_reducible rfl))
                    simp only [Act.put]
                    refine wpAnyH_take (i := 10) (v := ?vz10) rfl (by kernel_rfl) (by kernel_rfl) (by kernel_rfl) (fun _ _ _ h => h) (Or.inl ⟨by kernel_rfl, fun w' hSw => ?hyz10⟩) (by assumption) ?restz10
                    case hyz10 => ((try dsimp only at hSw); go_simp; (try with_reducible rfl))
                    simp only [Act.put]
                    refine wpAnyH_take (i := 11) (v := ?vz11) rfl (by kernel_rfl) (by kernel_rfl) (by kernel_rfl) (fun _ _ _ h => h) (Or.inl ⟨by kernel_rfl, fun w' hSw => ?hyz11⟩) (by assumption) ?restz11
                    case hyz11 => ((try dsimp only at hSw); go_simp; (try with_reducible rfl))
                    simp only [Act.put]
                    refine wpAnyH_take (i := 12) (v := ?vz12) rfl (by kernel_rfl) (by kernel_rfl) (by kernel_rfl) (fun _ _ _ h => h) (Or.inl ⟨by kernel_rfl, fun w' hSw => ?hyz12⟩) (by assumption) ?restz12
                    case hyz12 => ((try dsimp only at hSw); go_simp; (try with_reducible rfl))
                    simp only [Act.put]
                    refine wpAnyH_take (i := 13) (v := ?vz13) rfl (by kernel_rfl) (by kernel_rfl) (by kernel_rfl) (fun _ _ _ h => h) (Or.inl ⟨by kernel_rfl, fun w' hSw => ?hyz13⟩) (by assumption) ?restz13
                    case hyz13 => ((try dsimp only at hSw); go_simp; (try with_reducible rfl))
                    simp only [Act.put]
                    refine wpAnyH_take (i := 14) (v := ?vz14) rfl (by kernel_rfl) (by kernel_rfl) (by kernel_rfl) (fun _ _ _ h => h) (Or.inl ⟨by kernel_rfl, fun w' hSw => ?hyz14⟩) (by assumption) ?restz14
                    case hyz14 => ((try dsimp only at hSw); go_simp; (try with_reducible rfl))
                    simp only [Act.put]
                    refine wpAnyH_take (i := 15) (v := ?vz15) rfl (by kernel_rfl) (by kernel_rfl) (by kernel_rfl) (fun _ _ _ h => h) (Or.inl ⟨by kernel_rfl, fun w' hSw => ?hyz15⟩) (by assumption) ?restz15
                    case hyz15 => ((try dsimp only at hSw); go_simp; (try with_reducible rfl))
                    simp only [Act.put]
                    refine wpAnyH_take (i := 16) (v := ?vz16) rfl (by kernel_rfl) (by kernel_rfl) (by kernel_rfl) (fun _ _ _ h => h) (Or.inl ⟨by kernel_rfl, fun w' hSw => ?hyz16⟩) (by assumption) ?restz16
                    case hyz16 => ((try dsimp only at hSw); go_simp; (try with_reducible rfl))
                    simp only [Act.put]
                    refine wpAnyH_take (i := 17) (v := ?vz17) rfl (by kernel_rfl) (by kernel_rfl) (by kernel_rfl) (fun _ _ _ h => h) (Or.inl ⟨by kernel_rfl, fun w' hSw => ?hyz17⟩) (by assumption) ?restz17
                    case hyz17 => ((try dsimp only at hSw); go_simp; (try with_reducible rfl))
                    simp only [Act.put]
                    refine wpAnyH_take (i := 18) (v := ?vz18) rfl (by kernel_rfl) (by kernel_rfl) (by kernel_rfl) (fun _ _ _ h => h) (Or.inl ⟨by kernel_rfl, fun w' hSw => ?hyz18⟩) (by assumption) ?restz18
                    case hyz18 => ((try dsimp only at hSw); go_simp; (try with_reducible rfl))
                    simp only [Act.put]
                    refine wpAnyH_take (i := 19) (v := ?vz19) rfl (by kernel_rfl) (by kernel_rfl) (by kernel_rfl) (fun _ _ _ h => h) (Or.inl ⟨by kernel_rfl, fun w' hSw => ?hyz19⟩) (by assumption) ?restz19
                    case hyz19 => ((try dsimp only at hSw); go_simp; (try with_reducible rfl))
                    simp only [Act.put]
                    refine wpAnyH_take (i := 20) (v := ?vz20) rfl (by kernel_rfl) (by kernel_rfl) (by kernel_rfl) (fun _ _ _ h => h) (Or.inl ⟨by kernel_rfl, fun w' hSw => ?hyz20⟩) (by assumption) ?restz20
                    case hyz20 => ((try dsimp only at hSw); go_simp; (try with_reducible rfl))
                    simp only [Act.put]
                    refine wpAnyH_take (i := 21) (v := ?vz21) rfl (by kernel_rfl) (by kernel_rfl) (by kernel_rfl) (fun _ _ _ h => h) (Or.inl ⟨by kernel_rfl, fun w' hSw => ?hyz21⟩) (by assumption) ?restz21
                    case hyz21 => ((try dsimp only at hSw); go_simp; (try with_reducible rfl))
                    simp only [Act.put]
                    refine wpAnyH_take (i := 22) (v := ?vz22) rfl (by kernel_rfl) (by kernel_rfl) (by kernel_rfl) (fun _ _ _ h => h) (Or.inl ⟨by kernel_rfl, fun w' hSw => ?hyz22⟩) (by assumption) ?restz22
                    case hyz22 => ((try dsimp only at hSw); go_simp; (try with_reducible rfl))
                    simp only [Act.put]
                    refine wpAnyH_take (i := 23) (v := undef) rfl (by kernel_rfl) (by kernel_rfl) (by kernel_rfl) (fun _ _ _ h => h) (Or.inr ⟨by kernel_rfl, rfl⟩) (by assumption) ?_
                    simp only [Act.put]
                    refine wpAnyH_take (i := 24) (v := undef) rfl (by kernel_rfl) (by kernel_rfl) (by kernel_rfl) (fun _ _ _ h => h) (Or.inr ⟨by kernel_rfl, rfl⟩) (by assumption) ?_
                    simp only [Act.put]
                    refine wpAnyH_take (i := 25) (v := undef) rfl (by kernel_rfl) (by kernel_rfl) (by kernel_rfl) (fun _ _ _ h => h) (Or.inr ⟨by kernel_rfl, rfl⟩) (by assumption) ?_
                    simp only [Act.put]
                    refine wpAnyH_take (i := 26) (v := undef) rfl (by kernel_rfl) (by kernel_rfl) (by kernel_rfl) (fun _ _ _ h => h) (Or.inr ⟨by kernel_rfl, rfl⟩) (by assumption) ?_
                    simp only [Act.put]
                    refine wpAnyH_take (i := 27) (v := undef) rfl (by kernel_rfl) (by kernel_rfl) (by kernel_rfl) (fun _ _ _ h => h) (Or.inr ⟨by kernel_rfl, rfl⟩) (by assumption) ?_
                    simp only [Act.put]
                    refine wpAnyH_take (i := 28) (v := undef) rfl (by kernel_rfl) (by kernel_rfl) (by kernel_rfl) (fun _ _ _ h => h) (Or.inr ⟨by kernel_rfl, rfl⟩) (by assumption) ?_
                    simp only [Act.put]
                    refine wpAnyH_take (i := 29) (v := undef) rfl (by kernel_rfl) (by kernel_rfl) (by kernel_rfl) (fun _ _ _ h => h) (Or.inr ⟨by kernel_rfl, rfl⟩) (by assumption) ?_
                    simp only [Act.put]
                    refine wpAnyH_take (i := 30) (v := undef) rfl (by kernel_rfl) (by kernel_rfl) (by kernel_rfl) (fun _ _ _ h => h) (Or.inr ⟨by kernel_rfl, rfl⟩) (by assumption) ?_
                    simp only [Act.put]
                    refine wpAnyH_take (i := 31) (v := undef) rfl (by kernel_rfl) (by kernel_rfl) (by kernel_rfl) (fun _ _ _ h => h) (Or.inr ⟨by kernel_rfl, rfl⟩) (by assumption) ?_
                    simp only [Act.put]
                    refine wpAnyH_take (i := 32) (v := undef) rfl (by kernel_rfl) (by kernel_rfl) (by kernel_rfl) (fun _ _ _ h => h) (Or.inr ⟨by kernel_rfl, rfl⟩) (by assumption) ?_
                    simp only [Act.put]
                    refine wpAnyH_take (i := 33) (v := undef) rfl (by kernel_rfl) (by kernel_rfl) (by kernel_rfl) (fun _ _ _ h => h) (Or.inr ⟨by kernel_rfl, rfl⟩) (by assumption) ?_
                    simp only [Act.put]
                    refine wpAnyH_take (i := 34) (v := ?vz34) rfl (by kernel_rfl) (by kernel_rfl) (by kernel_rfl) (fun _ _ _ h => h) (Or.inl ⟨by kernel_rfl, fun w' hSw => ?hyz34⟩) (by assumption) ?restz34
                    case hyz34 => ((try dsimp only at hSw); go_simp; (try with_reducible rfl))
                    simp only [Act.put]
                    refine wpAnyH_ready (rs := [35]) (by kernel_rfl) (by simp) ?_
                    refine AllReadyH.cons rfl (fun K hK => ?_) AllReadyH.nil
                    go_simp
                    refine hK.out _ _ (by assumption) (fun hHeld => ?_)
                    clear hK K
                    refine wpAnyH_done (by kernel_rfl) ?_ _
                    have HS2 := (by assumption : _ ∧ _ ∧ _ ∧ Hid (OrdSt W A (some ⟨b, off, none⟩) qb qc qd W1)).2.2.2
                    go_wp2
                    exact ⟨⟨1, rfl, Lib.hid ⟨hlt, HS2.out⟩⟩, by simp [intOf]; omega⟩
                  · obtain ⟨j, hjk⟩ : ∃ j, k = j + 1 := ⟨k - 1, by omega⟩
                    have hj : j < A.length := by omega
                    have hkj : (k : Int) - 1 = (j : Int) := by omega
                    have i3 : (0 : Int) ≤ (j : Int) := by omega
                    have i4 : (j : Int) < (A.length : Int) := by omega
                    have g3 : (0 : Int) < (k : Int) := by omega
                    have hwj : IntKind.i64.wrap (j : Int) = (j : Int) := by rw [IntKind.wrap_i64]; omega
                    have g4 : decide (0 < k) = true := decide_eq_true hk0
                    obtain ⟨p, q, y, he2⟩ : ∃ p q y, A[j] = (p, q, y) := ⟨_, _, _, rfl⟩
                    have hcmp : cmpE (p, q, y) (u, v, x) = -1 := by
                      have h1 := List.pairwise_iff_getElem.1 HA.out.2.2.2.2.2.1.1 j k hj hlt (by omega)
                      rw [he, he2] at h1
                      exact cmp_of_lt (lt2_ltE h1)
                    have HC := Lib.hid (fun w => cmp_below (p, q, y) (u, v, x) w)
                    rw [hcmp] at HC
                    unfold encE at HC
                    simp only at HC
                    have HE := Lib.hid (And.intro he2 he)
                    have HS := Lib.hid HK.out.2
                    have hbr2 := hbr
                    clear he he2 hcmp c0 c1 c2 hjk hk0
                    go_wp2
                    go_region_held3 (fun w' => w'.cell? ⟨b, off + j * 3, none⟩ = some (.int .i64 p) ∧ w'.cell? ⟨b, off + j * 3 + 1, none⟩ = some (.int .i64 q) ∧ w'.cell? ⟨b, off + j * 3 + 2, none⟩ = some (.int .i64 y) ∧ w'.cell? ⟨b, off + k * 3, none⟩ = some (.int .i64 u) ∧ w'.cell? ⟨b, off + k * 3 + 1, none⟩ = some (.int .i64 v) ∧ w'.cell? ⟨b, off + k * 3 + 2, none⟩ = some (.int .i64 x) ∧ Hid (OrdSt W A (some ⟨b, off, none⟩) qb qc qd w'))
                      (first
                        | exact ord_keep6 hj hlt HE HS ((Below.refl _ _).drew)
                        | (go_split_ands; exact ord_keep6 hj hlt HE (by assumption) hb7)
                        | go_keep)
                      (first
                        | (go_at_call 13; refine (HC.out _).mono ?_; rintro e v1 ⟨rfl, hb7⟩))
                    have HS2 := (by assumption : _ ∧ _ ∧ _ ∧ _ ∧ _ ∧ _ ∧ Hid (OrdSt W A (some ⟨b, off, none⟩) qb qc qd v1)).2.2.2.2.2.2
                    clear HS HC
                    go_wp2
                    exact ⟨⟨k + 1, by go_num, Lib.hid ⟨hlt, HS2.out⟩⟩, by simp [intOf]; omega⟩
                · have hk : k = A.length := by have := HK.out.1; omega
                  subst hk
                  have HO := Lib.hid HK.out.2
                  clear HK
                  go_wp2_with fail
                  refine (edgeMerges.same_yes qa qb ca cb A (by omega) wr HO.out.2.1 HO.out.2.2.1).mono ?_
                  rintro e w6 ⟨rfl, hb6⟩
                  have HO6 := Lib.hid (HO.out.keep hb6)
                  clear hb6 HO
                  go_wp2_with fail
                  refine (edgeMerges.same_yes qa qc ca cc A (by omega) w6 HO6.out.2.1 HO6.out.2.2.2.1).mono ?_
                  rintro e w7 ⟨rfl, hb7⟩
                  have HO7 := Lib.hid (HO6.out.keep hb7)
                  clear hb7 HO6
                  go_wp2_with fail
                  refine (edgeMerges.same_yes qa qd ca cd A (by omega) w7 HO7.out.2.1 HO7.out.2.2.2.2).mono ?_
                  rintro e w8 ⟨rfl, hb8⟩
                  have HO8 := Lib.hid (HO7.out.keep hb8)
                  clear hb8 HO7
                  go_wp2_with fail
                  refine (awake_any w8).mono ?_
                  rintro e w9 ⟨rfl, hb9⟩
                  have HB9 := Lib.hid (HO8.out.1.trans (hb9.mono HO8.out.1.size))
                  clear hb9
                  go_wp2
                  go_ret
                  exact ⟨rfl, HB9.out⟩
  · have i1 : (l.length : Int) > 100 := by omega
    have HR := Lib.hid h1
    go_enter Try.func5, Try.ntmps5
    go_wp2_with fail
    refine (awake_any _).mono ?_
    rintro e w1 ⟨rfl, hb1⟩
    have HB1 := Lib.hid hb1
    clear hb1
    go_wp2
    go_ret
    exact ⟨rfl, HB1.out⟩
theorem own : ownKnob Try.prog.godebug = none := by kernel_rfl
theorem laidOut : laidOutB Try.prog = true := by kernel_rfl
set_option maxRecDepth 100000 in
theorem lifted (os : Os) (started : os.Started) (H : Type) (enc : TypeId × Value → H) :
    ReturnsInHanded {} Try.checked os 5 .any (Rows.edgeOrderSpec.pre6 enc Try.prog Try.f5 Rows.edgeOrderRow.domain false) (Rows.edgeOrderSpec.post enc Try.prog Try.f5 false true false false) := by
  refine returnsInHanded_of_change (C := Try.checked) own started (by kernel_rfl) Try.func5
    (ChangeSpec.witness6 (enc := enc) (C := Try.checked) false ⟨#[], #[.slice none 0 0], []⟩ 8 (by kernel_rfl) (by kernel_rfl) (by kernel_rfl) (by kernel_rfl)) ?_
  intro W base args ds gs before hval0 hW hcnd _
  have hval : ∀ (j : Nat) t v, Try.f5.params[j]? = some t → args[j]? = some v → Value.okWide Try.prog W .any base t v := hval0
  have hW' := hW
  obtain ⟨p, q, hA0, hV, rfl, hfz, hnd⟩ := hW
  have hA : DataW.TrodAll enc Try.prog W 0 (fun _ => true) true Try.f5.params.toList args.toList ds p := hA0
  rw [Try.params5] at hA hval
  obtain ⟨v0, vs0, d0, ds0, p0, q0, hargs, rfl, rfl, h0, r0⟩ := trodAll_cons hA
  obtain ⟨rfl, rfl, rfl⟩ := trodAll_nil r0
  obtain rfl : args = #[v0] := by cases args; simp_all
  obtain ⟨rfl, rfl⟩ := trodVars_none hV
  obtain ⟨a0, len0, cap0, rfl⟩ := okWide_slice Try.underlying22 (hval 0 22 v0 rfl rfl)
  have k0 := h0
  have lt0 : ∀ x ∈ p0, x.block < W.heap.size := by obtain ⟨m, hm⟩ := k0; exact DataW.trod_lt m _ _ _ hm
  obtain ⟨l0, hlen0, w0⟩ : ∃ l : List Ed, l.length = len0 ∧ EdIn W a0 l ∧ l.length ≤ maxLen := by
    obtain ⟨fuel, hf⟩ := h0
    exact open_edges hf
  subst hlen0
  clear hA0 hval0
  refine (walk_list a0 cap0 l0 W w0.1 w0.2).mono fun e W' ⟨he, bel⟩ => ?_
  subst he
  exact ⟨_, rfl, _, _, _, [], _, [], hW', trodAll_mk1 (shut_bool Try.underlying4 _), (trodAll_cons_mk (Below.trod laidOut (by kernel_rfl) (of_decide_eq_true (by kernel_rfl)) k0 bel lt0) trodAll_mk0), rfl, bel.frame _, fun h => by cases h⟩
theorem over : Rows.edgeOrderRow.holds Try.pinned (OpenSpec.ofChange Rows.edgeOrderSpec) :=
  OpenClaim.holds_of_wide 5 Try.f5 rfl rfl rfl rfl rfl rfl rfl ⟨rfl, rfl, rfl, rfl, rfl⟩ rfl rfl rfl rfl rfl (by kernel_rfl) Try.func5 (by kernel_rfl)
    (of_decide_eq_true (by kernel_rfl)) (by unfold Func.isWrapper; first | (rw [if_pos (by decide +kernel)]; kernel_rfl) | (rw [if_neg (by decide +kernel)]; exact ⟨rfl, rfl⟩))
    (fun os started H enc _ => lifted os started H enc)
/-- The statement. -/
theorem proved : Rows.EdgeOrderSaid := over
#print axioms proved
end Go.Proofs.Ytbkcjbknoljogaa.edgeOrder
