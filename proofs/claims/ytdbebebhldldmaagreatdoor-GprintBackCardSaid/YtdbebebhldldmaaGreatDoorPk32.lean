/- Texts that the laws of this seat stand on, part 32. -/
import Derived.Test.YtdbebebhldldmaaGreatDoorPk31
import Derived.Test.YtdbebebhldldmaaGreatDoorPk24
import Derived.Test.YtdbebebhldldmaaGreatDoorPk6
/- A contract for the program's graphOf: the graph of a text, or a panic with why and where there is none. -/
namespace Go.Proofs.YtdbebebhldldmaaGreatDoor.Gr
open Go.RowKit Go.ChangeShapes DecPure WordPure GrPure EdPure NtPure NumPure Str
def GraphOut (B : Int × Int × Int × List Ed) (w : World) (e : Ending) (w' : World) : Prop :=
  Below w.heap.size w w' ∧ ((B.1 ≠ 0 ∧ e = .panicked [{ v := stopV B.1 B.2.1, recovered := false }]) ∨
    ((B.1 = 0 ∧ B.2.1 = 0) ∧ ∃ (g N : Nat) (M : List Ed), e = .returned (.pointer (some ⟨g, 0, none⟩)) ∧ NetAt (some ⟨g, 0, none⟩) N M w' ∧ (N ≤ 4096 ∧ M.length ≤ 1048576 ∧ GoodN N M) ∧ B.2.2.1 = N ∧ mergeE B.2.2.2 = some M))
/-- At the head of a round: the text that is left, the edges so far. -/
def GoAt (T : Nat) (w0 : World) (n m : Int) (A : Int × Int × List Ed) (xs : List Ed) (R : ByteArray) (v : Value) (w : World) : Prop :=
  Below T w0 w ∧ TwoAt T w (.string R) (.int .i64 ((xs.length + 1 : Nat) : Int)) ∧ w.ownsRow (T + 1) 51 3 v xs.length (flatE xs) ∧ (∀ e ∈ xs, chkE n e = 0) ∧ A = goR n m xs (xs.length + 1) (splitC 10 R.data.toList)
theorem turn_owns {T : Nat} {w w' : World} {n : Nat} {v : Value} {xs : List Value} (h : w.ownsRow (T + 1) 51 3 v n xs) (ht : Turn (fun b => b = T) w w') : w'.ownsRow (T + 1) 51 3 v n xs :=
  owns_same h fun k hk => ht.2.2.2.2 k (h.lt k hk).2 (fun e => by have := (h.lt k hk).1; omega)
/-- What lies when a line was taken, its edge told, and its place laid. -/
theorem GoAt.mid {T : Nat} {w0 : World} {n m : Int} {A : Int × Int × List Ed} {xs : List Ed} {R R' : ByteArray} {v : Value} {w w1 w2 : World} (h : GoAt T w0 n m A xs R v w) (ht : Turn (fun b => b = T) w w1) (hT : TwoAt T w1 (.string R') (.int .i64 (((xs.length + 1 : Nat) : Int) + 1)))
    (hb : Below w1.heap.size w1 w2) (o : Obj) : Below T w0 (w2.alloc o) ∧ TwoAt T (w2.alloc o) (.string R') (.int .i64 (((xs.length + 1 : Nat) : Int) + 1)) ∧ (w2.alloc o).ownsRow (T + 1) 51 3 v xs.length (flatE xs) := by
  obtain ⟨h1, h2, h3, -⟩ := h
  have hl := hT.lt
  have hb2 : Below w1.heap.size w1 (w2.alloc o) := hb.alloc hb.size o
  have hlw := h2.lt
  refine ⟨(h1.trans (ht.below (by omega) (fun k hk => by omega))).trans (hb2.mono (by omega)), hT.on hb2 hl, owns_below (turn_owns h3 ht) hb2⟩
theorem GoAt.step {T : Nat} {w0 : World} {n m : Int} {A : Int × Int × List Ed} {xs : List Ed} {R : ByteArray} {v v' : Value} {w w' : World} {o : Obj} (x : Ed) (h1 : Below T w0 w) (h2 : TwoAt T w (.string R) (.int .i64 (((xs.length + 1 : Nat) : Int) + 1))) (h3 : w.ownsRow (T + 1) 51 3 v xs.length (flatE xs))
    (hx : chkE n x = 0) (hxs : ∀ e ∈ xs, chkE n e = 0) (hA : A = goR n m (xs ++ [x]) (xs.length + 1 + 1) (splitC 10 R.data.toList)) (hn : w'.ownsRow (T + 1) 51 3 v' (xs.length + 1) (flatE xs ++ cellE x)) (hg : (w.alloc o).grownBy w' v.ownBlock) :
    GoAt T w0 n m A (xs ++ [x]) R v' w' := by
  have hl := h2.lt
  have hb : Below (T + 1) w w' := ((Below.refl (T + 1) w).alloc (by omega) o).grown hg (by simp; omega) fun j hj => (h3.lt j hj).1
  refine ⟨h1.trans (hb.mono (by omega)), ?_, ?_, fun e he => ?_, ?_⟩
  · have := h2.on hb (by omega)
    rw [show (((xs ++ [x]).length + 1 : Nat) : Int) = ((xs.length + 1 : Nat) : Int) + 1 by simp]
    exact this
  · rw [flatE_snoc, List.length_append]
    exact hn
  · rcases List.mem_append.1 he with he | he
    · exact hxs e he
    · rw [List.mem_singleton.1 he]; exact hx
  · rw [hA, List.length_append]; rfl
theorem rest_size {s P R : ByteArray} (h : s.data.toList = P.data.toList ++ 10 :: R.data.toList) : P.size ≤ s.size ∧ R.size ≤ s.size := by
  have h1 := Lib.size_eq s
  have h2 := Lib.size_eq P
  have h3 := Lib.size_eq R
  have := congrArg List.length h
  simp only [List.length_append, List.length_cons] at this
  omega
theorem errN_ok {n : Int} {xs : List Ed} (h1 : 0 ≤ n ∧ n ≤ 4096) (h2 : xs.length ≤ 1048576) (h : ∀ e ∈ xs, chkE n e = 0) : errN n xs = (0, 0) := by
  unfold errN
  rw [if_neg (by omega), if_neg (by omega)]
  exact chk_miss n xs 0 fun j hj => h _ (List.getElem_mem hj)
theorem inL_of {n : Int} {xs : List Ed} (h1 : n ≤ 4096) (h : ∀ e ∈ xs, chkE n e = 0) : InL xs := by
  intro e he
  have hc := h e he
  unfold chkE at hc
  split at hc
  · split at hc
    · refine ⟨?_, ?_, ?_⟩ <;> (unfold In; omega)
    · omega
  · omega
set_option maxRecDepth 100000 in
set_option maxHeartbeats 4000000 in
theorem graphOf_any (s : ByteArray) (hs : s.size ≤ 100000000) (w : World) :
    Calls Tryz.prog 47 #[.string s] w fun e w' => GraphOut (readP (splitC 10 s.data.toList)) w e w' := by
  have HB0 : Hid (Below w.heap.size w (w.alloc (.cells #[.string s, .int .i64 0] 133))) := Lib.hid ((Below.refl _ _).alloc (Nat.le_refl _) _)
  have HT0 : Hid (TwoAt w.heap.size (w.alloc (.cells #[.string s, .int .i64 0] 133)) (.string s) (.int .i64 ((0 : Nat) : Int))) := Lib.hid (TwoAt.new _ _ _ _)
  have HNone : Hid (NoC 10 s.data.toList → readP (splitC 10 s.data.toList) = (2, 1, 0, [])) := Lib.hid read_none
  have HStep : Hid (∀ p r, s.data.toList = p ++ 10 :: r → NoC 10 p → (headE p ≠ 0 → readP (splitC 10 s.data.toList) = (headE p, 1, 0, [])) ∧
    (headE p = 0 → readP (splitC 10 s.data.toList) = ((goR (headN p) (headM p) [] 1 (splitC 10 r)).1, (goR (headN p) (headM p) [] 1 (splitC 10 r)).2.1, headN p, (goR (headN p) (headM p) [] 1 (splitC 10 r)).2.2))) := Lib.hid fun p r => read_step
  have HSZ := Lib.hid hs
  have hm1 : s.size ≤ 100000000 := hs
  obtain ⟨i9, hi, hz0, hz1, hz2⟩ := info_edge
  generalize readP (splitC 10 s.data.toList) = B at *
  clear hs
  go_enter Tryz.func47, Tryz.ntmps47
  go_wp2_with fail
  generalize w.alloc (.cells #[.string s, .int .i64 0] 133) = W0 at *
  generalize hTT : w.heap.size = T at *
  have HTT := Lib.hid hTT
  clear hTT
  refine (next_any T s HSZ.out 0 (by omega) W0 HT0.out).mono ?_
  rintro e w1 ⟨ht1, ⟨hno, rfl⟩ | ⟨P, R, hPR, hP, rfl, hT1⟩⟩
  · have hB := HNone.out hno
    have HB1 := Lib.hid (HB0.out.trans (ht1.below (by have := HT0.out.lt; omega) (fun k hk => by omega)))
    clear ht1
    go_wp2
    refine ⟨rfl, by rw [HTT.out]; exact HB1.out, Or.inl ⟨by rw [hB]; show (2 : Int) ≠ 0; decide, by rw [hB]; try rfl⟩⟩
  · have HB1 := Lib.hid (HB0.out.trans (ht1.below (by have := HT0.out.lt; omega) (fun k hk => by omega)))
    have HT1 := Lib.hid hT1
    have hRS := rest_size hPR
    have hps : P.size ≤ 100000000 := by omega
    have hrs : R.size ≤ 100000000 := by omega
    have HST := Lib.hid (HStep.out _ _ hPR hP)
    have HHE := Lib.hid (progHead_any P hps w1)
    have HRG : Hid (headE P.data.toList = 0 → (0 ≤ headN P.data.toList ∧ headN P.data.toList ≤ 4096) ∧ 0 ≤ headM P.data.toList ∧ headM P.data.toList ≤ 1048576) := Lib.hid head_rng
    clear ht1 hT1 hRS HNone HStep HB0 HT0 hPR hP hps
    generalize headE P.data.toList = hE at *
    generalize headN P.data.toList = n at *
    generalize headM P.data.toList = m at *
    go_wp2_with fail
    refine HHE.out.mono ?_
    rintro e w2 ⟨rfl, hb2⟩
    have HB2 := Lib.hid (HB1.out.trans (hb2.mono (by have := HT1.out.lt; omega)))
    have HT2 := Lib.hid (HT1.out.on hb2 HT1.out.lt)
    clear hb2 HB1 HT1 HHE
    by_cases hz : hE = 0
    · subst hz
      obtain ⟨⟨n0, n1⟩, m0, m1⟩ := HRG.out rfl
      have hB := Lib.hid (HST.out.2 rfl)
      clear HRG HST
      obtain ⟨m', rfl⟩ : ∃ m' : Nat, m = (m' : Int) := ⟨m.toNat, by omega⟩
      have hm' : m' ≤ 1048576 := by omega
      go_wp2_with fail
      refine (check_ok _ _).mono ?_
      rintro e w3 ⟨rfl, rfl⟩
      have HS : Hid (GoAt T w n (m' : Int) (goR n (m' : Int) [] 1 (splitC 10 R.data.toList)) [] R (.slice none 0 0) w3) := Lib.hid ⟨HB2.out, HT2.out, World.ownsRow_nil _ _ _ _, fun e he => by simp at he, rfl⟩
      generalize goR n (m' : Int) [] 1 (splitC 10 R.data.toList) = A at *
      clear HB2 HT2
      go_wp2
      go_loopw [7, 24] (fun v i wr => ∃ (j : Nat) (s' : Value) (xs : List Ed) (R : ByteArray), s' = v ∧ i = .int .i64 j ∧ xs.length = j ∧ j ≤ m' ∧ R.size ≤ 100000000 ∧ Hid (GoAt T w n (m' : Int) A xs R s' wr)) (fun _ i _ => m' - (intOf i).toNat)
      case atStart => exact ⟨0, _, [], R, rfl, rfl, rfl, Nat.zero_le _, hrs, HS⟩
      case round =>
        obtain ⟨j, v, xs, R, rfl, rfl, hxj, hjm, hrs, HJ⟩ := hrel
        have HXJ := Lib.hid hxj
        clear HS hxj
        by_cases hj : j < m'
        · have i1 : (j : Int) < (m' : Int) := by omega
          have HNE : Hid ((xs.length : Int) ≠ (m' : Int)) := Lib.hid (by have := HXJ.out; omega)
          have HNX := Lib.hid (next_any T R hrs (xs.length + 1) (by have := HXJ.out; omega) wr HJ.out.2.1)
          go_wp2_with fail
          refine HNX.out.mono ?_
          rintro e w4 ⟨ht, ⟨hno, rfl⟩ | ⟨P, R', hPR, hP, rfl, hT4⟩⟩
          · have hA : A = _ := HJ.out.2.2.2.2.trans (go_none hno HNE.out)
            have HB4 := Lib.hid (HJ.out.1.trans (ht.below (by have := HJ.out.2.1.lt; omega) (fun k hk => by omega)))
            have HA := Lib.hid hA
            clear ht hA
            go_wp2
            refine ⟨rfl, by rw [HTT.out]; exact HB4.out, Or.inl ⟨?_, ?_⟩⟩
            · rw [hB.out, HA.out]; show (2 : Int) ≠ 0; decide
            · rw [hB.out, HA.out]; try rfl
          · have hRS := rest_size hPR
            have hrs' : R'.size ≤ 100000000 := by omega
            have HED := Lib.hid (progEdge_any P (by omega) n (by omega) (by omega) w4)
            have HGS := Lib.hid (go_step (n := n) (m := (m' : Int)) (L := xs) (k := xs.length + 1) hPR hP HNE.out)
            have HCK : Hid (edgeE P.data.toList n = 0 → chkE n (edgeX P.data.toList n) = 0) := Lib.hid edge_chk
            have HTu := Lib.hid ht
            have HT4 := Lib.hid hT4
            unfold encE at HED
            clear ht hT4 hPR hP hRS HNX
            generalize edgeE P.data.toList n = z at *
            generalize edgeX P.data.toList n = x at *
            go_wp2_with fail
            refine HED.out.mono ?_
            rintro e w5 ⟨rfl, hb5⟩
            have HM := Lib.hid (HJ.out.mid HTu.out HT4.out hb5 (.cells #[.int .i64 x.1, .int .i64 x.2.1, .int .i64 x.2.2] 51))
            have HX : Hid (ThreeAt w5.heap.size (w5.alloc (.cells #[.int .i64 x.1, .int .i64 x.2.1, .int .i64 x.2.2] 51)) (.int .i64 x.1) (.int .i64 x.2.1) (.int .i64 x.2.2)) := Lib.hid (ThreeAt.new _ _ _ _ _)
            clear hb5 HED HTu HT4
            by_cases hz : z = 0
            · subst hz
              have HA : Hid (A = _) := Lib.hid (HJ.out.2.2.2.2.trans (HGS.out.2 rfl))
              have HC := Lib.hid (HCK.out rfl)
              have HXS := Lib.hid HJ.out.2.2.2.1
              clear HGS HCK HJ
              go_wp2_with fail
              refine (check_ok _ _).mono ?_
              rintro e w6 ⟨rfl, rfl⟩
              generalize w5.alloc (.cells #[.int .i64 x.1, .int .i64 x.2.1, .int .i64 x.2.2] 51) = wc at *
              generalize w5.heap.size = X at *
              obtain ⟨q0, q1, q2, g0, g1, g2⟩ := HX.out
              have hlX := HX.out.lt
              have hTl : T + 1 ≤ wc.heap.size := HM.out.2.1.lt
              go_wp2_with (first
                | (at_builtin; refine wpList_append_own _ rfl _ _ 22 rfl (T + 1) 51 i9 (.agg #[.int .i64 0, .int .i64 0, .int .i64 0]) 3 24 Tryz.underlying22 hi hz0 hz1 hz2 rfl (by decide) v xs.length (flatE xs) rfl (HM.out.2.2.alloc _) ⟨wc.heap.size, 0, none⟩ 1 1 (cellE x) rfl rfl (three_newsAt rfl) ones_edge (by have := HXJ.out; unfold maxLen; omega) (by have := HXJ.out; omega) (by simp; omega) ?_; intro s3 w7 hown hg _; have HZ := Lib.hid (GoAt.step x HM.out.1 HM.out.2.1 HM.out.2.2 HC.out HXS.out HA.out hown hg); clear hown hg))
              go_roundw
              case rel => exact ⟨j + 1, s3, xs ++ [x], R', rfl, by go_num, by have := HXJ.out; simp; omega, by omega, hrs', HZ⟩
              case measure => simp [intOf]; omega
            · have HA : Hid (A = _) := Lib.hid (HJ.out.2.2.2.2.trans (HGS.out.1 hz))
              have HZ := Lib.hid hz
              clear HGS HCK HJ
              go_wp2_with fail
              refine (check_bad T z _ HZ.out _ HM.out.2.1.2.1).mono ?_
              rintro e w6 ⟨rfl, rfl⟩
              go_wp2
              refine ⟨rfl, by rw [HTT.out]; exact HM.out.1, Or.inl ⟨?_, ?_⟩⟩
              · rw [hB.out, HA.out]; exact HZ.out
              · rw [hB.out, HA.out]; try rfl
        · obtain rfl : j = m' := by omega
          have HL := Lib.hid (go_left (n := n) (m := (j : Int)) (L := xs) (k := xs.length + 1) (l := R.data.toList) (by have := HXJ.out; omega))
          by_cases h0 : R.data.toList = []
          · have HA : Hid (A = _) := Lib.hid (HJ.out.2.2.2.2.trans (HL.out.1 h0))
            have HER := Lib.hid (errN_ok (n := n) ⟨n0, n1⟩ (by have := HXJ.out; omega) HJ.out.2.2.2.1)
            have HIN := Lib.hid (inL_of n1 HJ.out.2.2.2.1)
            obtain ⟨p, cap, rfl, hrd, -⟩ := owns_readsE rfl HJ.out.2.2.1
            have HRD := Lib.hid hrd
            have HEN := Lib.hid (end_ok T R h0 _ wr HJ.out.2.1)
            have HB5 := Lib.hid HJ.out.1
            clear HL h0 hrd HJ
            go_wp2_with fail
            refine HEN.out.mono ?_
            rintro e w5 ⟨rfl, rfl⟩
            go_wp2_with fail
            refine (newNet_any n p cap xs HIN.out _ HRD.out).mono ?_
            rintro e w6 ⟨hb6, ⟨hbad, -⟩ | ⟨-, N, M, g, hnN, hN, hG, hMl, hxl, hmg, rfl, hnet⟩⟩
            · rw [HER.out] at hbad; exact absurd rfl hbad
            have HO : Hid (GraphOut B w (.returned (.pointer (some ⟨g, 0, none⟩))) w6) := Lib.hid ⟨by rw [HTT.out]; exact HB5.out.trans (hb6.mono (by have := HB5.out.size; have := HTT.out; omega)), Or.inr ⟨by rw [hB.out, HA.out]; exact ⟨rfl, rfl⟩, g, N, M, rfl, hnet, ⟨hN, by have := HXJ.out; omega, hG⟩, by rw [hB.out]; exact hnN, by rw [hB.out, HA.out]; exact hmg⟩⟩
            clear hb6 hnet hmg hG
            go_wp2
            go_ret
            exact HO.out
          · have HA : Hid (A = _) := Lib.hid (HJ.out.2.2.2.2.trans (HL.out.2 h0))
            have HEN := Lib.hid (end_bad T R h0 (xs.length + 1) (by have := HXJ.out; omega) wr HJ.out.2.1)
            have HB5 := Lib.hid HJ.out.1
            have hlt := HJ.out.2.1.lt
            clear HL h0 HJ
            go_wp2_with fail
            refine HEN.out.mono ?_
            rintro e w5 ⟨rfl, ht⟩
            have HB6 := Lib.hid (HB5.out.trans (ht.below (by omega) (fun k hk => by omega)))
            clear ht
            go_wp2
            refine ⟨rfl, by rw [HTT.out]; exact HB6.out, Or.inl ⟨?_, ?_⟩⟩
            · rw [hB.out, HA.out]; show (2 : Int) ≠ 0; decide
            · rw [hB.out, HA.out]; try rfl
    · have hB := HST.out.1 hz
      have HB3 := Lib.hid hB
      have HZ := Lib.hid hz
      clear hB HST HRG
      go_wp2_with fail
      refine (check_bad T hE _ HZ.out _ HT2.out.2.1).mono ?_
      rintro e w3 ⟨rfl, rfl⟩
      go_wp2
      refine ⟨rfl, by rw [HTT.out]; exact HB2.out, Or.inl ⟨by rw [HB3.out]; exact HZ.out, by rw [HB3.out]; try rfl⟩⟩
end Go.Proofs.YtdbebebhldldmaaGreatDoor.Gr
/- What the program's Read of a text answers, and what is known of the texts by which it is woken. -/
namespace Go.Proofs.YtdbebebhldldmaaGreatDoor.Gr
open Go.RowKit Go.ChangeShapes EdPure DecPure WordPure GrPure NtPure
/-- A graph, or why there is none, and where. -/
def OutR (l : List UInt8) (w : World) (e : Ending) (w' : World) : Prop :=
  Below w.heap.size w w' ∧ ∃ (p : Option Addr) (N : Nat) (M : List Ed), e = .returned (.tuple #[.pointer p, .int .i64 (readR l).1, .int .i64 (readR l).2.1]) ∧ NetAt p N M w' ∧ (N ≤ 4096 ∧ M.length ≤ 1048576 ∧ GoodN N M) ∧
    ((readR l).1 ≠ 0 ∧ p = none ∧ N = 0 ∧ M = [] ∨ ((readR l).1 = 0 ∧ (readR l).2.1 = 0) ∧ (∃ g, p = some ⟨g, 0, none⟩) ∧ (readR l).2.2.1 = N ∧ mergeE (readR l).2.2.2 = some M)
def awA : List UInt8 := [103, 114, 97, 112, 104, 32, 50, 32, 50, 10, 48, 32, 49, 32, 53, 10, 49, 32, 48, 32, 50, 10]
def awB : List UInt8 := [103, 114, 97, 112, 104, 32, 50, 32, 49, 10, 48, 32, 50, 32, 53, 10]
theorem aw_A : readR awA = (0, 0, 2, [(0, 1, 5), (1, 0, 2)]) := by decide +kernel
theorem aw_B : (readR awB).1 = 4 ∧ (readR awB).2.1 = 2 := by decide +kernel
theorem aw_M : mergeE [(0, 1, 5), (1, 0, 2)] = some [(0, 1, 7)] := by decide
end Go.Proofs.YtdbebebhldldmaaGreatDoor.Gr
