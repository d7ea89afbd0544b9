/- The document's Read (layer 17). -/
import Derived.Test.YtflnmkgpmjefhaaPk35
import Derived.Test.YtflnmkgpmjefhaaPk28
import Derived.Test.YtflnmkgpmjefhaaPk34
namespace Go.Proofs.Ytflnmkgpmjefhaa.Gr
open Go.RowKit Go.ChangeShapes EdPure DecPure WordPure GrPure Str
/-- The result's block, the first line's block, and what edges were gathered so far, at the head of a round. -/
def RdMem (N R H : Nat) (n m : Int) (L : List Ed) (v : Value) (w w0 wr : World) : Prop :=
  (R < w0.heap.size ∧ H < w0.heap.size) ∧ Below N w wr ∧ QuadAt R wr (.int .i64 0) (.slice none 0 0) (.int .i64 0) (.int .i64 0) ∧ (∀ i, 4 ≤ i → wr.cell? ⟨R, i, none⟩ = none) ∧
    ThreeAt H wr (.int .i64 n) (.int .i64 m) (.int .i64 0) ∧ (L = [] → v = .slice none 0 0) ∧ GrowE w0 L v wr
theorem RdMem.on {N R H : Nat} {n m : Int} {L : List Ed} {v : Value} {w w0 wr w' : World} (h : RdMem N R H n m L v w w0 wr) (hN : N ≤ wr.heap.size) (hb : Below wr.heap.size wr w') : RdMem N R H n m L v w w0 w' := by
  obtain ⟨h1, h2, h3, h4, h5, h6, h7⟩ := h
  exact ⟨h1, h2.trans (hb.mono hN), h3.on hb h3.lt, fun i hi => (hb.cell (p := ⟨R, i, none⟩) h3.lt).trans (h4 i hi), h5.on hb h5.lt, h6, h7.on hb⟩
theorem RdMem.step {N R H : Nat} {n m : Int} {L : List Ed} {v v' : Value} {w w0 wr w' : World} {o : Obj} (h : RdMem N R H n m L v w w0 wr) (hN : N ≤ R) (x : Ed)
    (h1 : w'.ownsRow w0.heap.size 27 3 v' (L.length + 1) (flatE L ++ cellE x)) (hg : (wr.alloc o).grownBy w' v.ownBlock) : RdMem N R H n m (L ++ [x]) v' w w0 w' := by
  obtain ⟨⟨r1, r2⟩, b1, q, hx, t, hv, g⟩ := h
  have hz := g.1.size
  have hgr : Below w0.heap.size wr w' := ((Below.refl _ _).alloc hz o).grown hg (by simp; omega) fun j hj => (g.2.lt j hj).1
  refine ⟨⟨r1, r2⟩, b1.trans (hgr.mono (by omega)), q.on hgr r1, fun i hi => (hgr.cell (p := ⟨R, i, none⟩) r1).trans (hx i hi), t.on hgr r2, fun e => ?_, g.step x h1 hg⟩
  have := congrArg List.length e
  simp at this
def lay4 (w : World) (R : Nat) (a b c d : Value) : World := (((w.setCell ⟨R, 0, none⟩ a).setCell ⟨R, 1, none⟩ b).setCell ⟨R, 2, none⟩ c).setCell ⟨R, 3, none⟩ d
def lay3 (w : World) (R : Nat) (a b c : Value) : World := ((w.setCell ⟨R, 0, none⟩ a).setCell ⟨R, 1, none⟩ b).setCell ⟨R, 2, none⟩ c
theorem lay3_cell {w : World} {R b i : Nat} {x y z : Value} (h : b ≠ R) : (lay3 w R x y z).cell? ⟨b, i, none⟩ = w.cell? ⟨b, i, none⟩ := by
  unfold lay3
  rw [World.cell?_setCell_other _ ⟨R, 2, none⟩ ⟨b, i, none⟩ _ (fun e => h (congrArg Addr.block e).symm), World.cell?_setCell_other _ ⟨R, 1, none⟩ ⟨b, i, none⟩ _ (fun e => h (congrArg Addr.block e).symm), World.cell?_setCell_other _ ⟨R, 0, none⟩ ⟨b, i, none⟩ _ (fun e => h (congrArg Addr.block e).symm)]
theorem lay3_below {N R : Nat} {w wr : World} {x y z : Value} (h : Below N w wr) (hR : N ≤ R) : Below N w (lay3 wr R x y z) :=
  ((h.setCell (p := ⟨R, 0, none⟩) hR _).setCell (p := ⟨R, 1, none⟩) hR _).setCell (p := ⟨R, 2, none⟩) hR _
theorem lay4_below {N R : Nat} {w wr : World} {x y z u : Value} (h : Below N w wr) (hR : N ≤ R) : Below N w (lay4 wr R x y z u) :=
  (((h.setCell (p := ⟨R, 0, none⟩) hR _).setCell (p := ⟨R, 1, none⟩) hR _).setCell (p := ⟨R, 2, none⟩) hR _).setCell (p := ⟨R, 3, none⟩) hR _
theorem RdMem.head {N R H : Nat} {n m : Int} {v : Value} {w w0 wr : World} (h : RdMem N R H n m [] v w w0 wr) (hH : N ≤ H) (hne : R ≠ H) (n' m' : Int) :
    v = .slice none 0 0 ∧ RdMem N R H n' m' [] v w (lay3 wr H (.int .i64 n') (.int .i64 m') (.int .i64 0)) (lay3 wr H (.int .i64 n') (.int .i64 m') (.int .i64 0)) := by
  obtain ⟨-, b1, q, hx, t, hv, -⟩ := h
  have hv := hv rfl
  subst hv
  refine ⟨rfl, ⟨?_, ?_⟩, lay3_below b1 hH, ?_, fun i hi => (lay3_cell hne).trans (hx i hi), t.set _ _ _, fun _ => rfl, GrowE.start _⟩
  · have := q.lt; simpa [lay3] using this
  · have := t.lt; simpa [lay3] using this
  · intro i hi
    obtain ⟨e1, e2⟩ := q i hi
    exact ⟨(lay3_cell hne).trans e1, by unfold lay3; simpa using e2⟩
def ReadOut (s : List UInt8) (w : World) (e : Ending) (w' : World) : Prop :=
  Below w.heap.size w w' ∧ (((readR s).1 ≠ 0 ∧ e = .returned (.agg #[.int .i64 0, .slice none 0 0, .int .i64 (readR s).1, .int .i64 (readR s).2.1])) ∨
    ((readR s).1 = 0 ∧ ∃ (M : List Ed) (q : Option Addr) (c : Nat), mergeE (readR s).2.2.2 = some M ∧ e = .returned (.agg #[.int .i64 (readR s).2.2.1, .slice q M.length c, .int .i64 0, .int .i64 0]) ∧ ReadsE w'.heap.size w' q M))
theorem readR_few {s : List UInt8} (h : s.length ≤ 16777216) : readR s = readP (splitC 10 s) := by unfold readR; rw [if_neg (by omega)]
theorem lay3_quad {R H : Nat} {w : World} {a b c d x y z : Value} (h : QuadAt R w a b c d) (hne : R ≠ H) : QuadAt R (((w.setCell ⟨H, 0, none⟩ x).setCell ⟨H, 1, none⟩ y).setCell ⟨H, 2, none⟩ z) a b c d := by
  intro i hi
  obtain ⟨e1, e2⟩ := h i hi
  exact ⟨(lay3_cell hne).trans e1, by simpa using e2⟩
/-- The result's block with an error: what is told. -/
theorem out_bad {R : Nat} {w wr : World} (hb : Below w.heap.size w wr) (hq : QuadAt R wr (.int .i64 0) (.slice none 0 0) (.int .i64 0) (.int .i64 0)) (hR : w.heap.size ≤ R) {s : List UInt8} (hs : s.length ≤ 16777216) {e a : Int} (he : e ≠ 0) (h1 : (readP (splitC 10 s)).1 = e) (h2 : (readP (splitC 10 s)).2.1 = a) :
    QuadAt R ((((wr.setCell ⟨R, 0, none⟩ (.int .i64 0)).setCell ⟨R, 1, none⟩ (.slice none 0 0)).setCell ⟨R, 2, none⟩ (.int .i64 e)).setCell ⟨R, 3, none⟩ (.int .i64 a)) (.int .i64 0) (.slice none 0 0) (.int .i64 e) (.int .i64 a) ∧
      ReadOut s w (.returned (.agg #[.int .i64 0, .slice none 0 0, .int .i64 e, .int .i64 a])) ((((wr.setCell ⟨R, 0, none⟩ (.int .i64 0)).setCell ⟨R, 1, none⟩ (.slice none 0 0)).setCell ⟨R, 2, none⟩ (.int .i64 e)).setCell ⟨R, 3, none⟩ (.int .i64 a)) :=
  ⟨hq.set _ _ _ _, lay4_below hb hR, Or.inl ⟨by rw [readR_few hs, h1]; exact he, by rw [readR_few hs, h1, h2]⟩⟩
/-- The result's block with a graph. -/
theorem out_good {R : Nat} {w wr : World} (hb : Below w.heap.size w wr) (hq : QuadAt R wr (.int .i64 0) (.slice none 0 0) (.int .i64 0) (.int .i64 0)) (hx : ∀ i, 4 ≤ i → wr.cell? ⟨R, i, none⟩ = none) (hR : w.heap.size ≤ R) {s : List UInt8} (hs : s.length ≤ 16777216) {n : Int} {L M : List Ed} {q : Option Addr} {c : Nat}
    (h1 : readP (splitC 10 s) = (0, 0, n, L)) (hm : mergeE L = some M) (hr : ReadsE wr.heap.size wr q M) :
    QuadAt R ((((wr.setCell ⟨R, 0, none⟩ (.int .i64 n)).setCell ⟨R, 1, none⟩ (.slice q M.length c)).setCell ⟨R, 2, none⟩ (.int .i64 0)).setCell ⟨R, 3, none⟩ (.int .i64 0)) (.int .i64 n) (.slice q M.length c) (.int .i64 0) (.int .i64 0) ∧
      ReadOut s w (.returned (.agg #[.int .i64 n, .slice q M.length c, .int .i64 0, .int .i64 0])) ((((wr.setCell ⟨R, 0, none⟩ (.int .i64 n)).setCell ⟨R, 1, none⟩ (.slice q M.length c)).setCell ⟨R, 2, none⟩ (.int .i64 0)).setCell ⟨R, 3, none⟩ (.int .i64 0)) :=
  ⟨hq.set _ _ _ _, lay4_below hb hR, Or.inr ⟨by rw [readR_few hs, h1], M, q, c, by rw [readR_few hs, h1]; exact hm, by rw [readR_few hs, h1], quad_apart hq hx hr (Nat.le_refl _) _ _ _ _⟩⟩
theorem err_good {n : Int} {L : List Ed} (hn : 0 ≤ n ∧ n ≤ 4096) (hL : L.length ≤ 1048576) (h : ∀ e ∈ L, chkE n e = 0) : errN n L = (0, 0) := by
  unfold errN
  rw [if_neg (by omega), if_neg (by omega)]
  exact chk_miss n L 0 fun j hj => h _ (List.getElem_mem hj)
theorem RdMem.start (w : World) : RdMem w.heap.size w.heap.size (w.heap.size + 1) 0 (-1) [] (.slice none 0 0) w ((w.alloc (.cells #[.int .i64 0, .slice none 0 0, .int .i64 0, .int .i64 0] 44)).alloc (.cells #[.int .i64 0, .int .i64 (-1), .int .i64 0] 31)) ((w.alloc (.cells #[.int .i64 0, .slice none 0 0, .int .i64 0, .int .i64 0] 44)).alloc (.cells #[.int .i64 0, .int .i64 (-1), .int .i64 0] 31)) := by
  have q := QuadAt.new w (.int .i64 0) (.slice none 0 0) (.int .i64 0) (.int .i64 0) 44
  have b1 : Below w.heap.size w (w.alloc (.cells #[.int .i64 0, .slice none 0 0, .int .i64 0, .int .i64 0] 44)) := (Below.refl _ _).alloc (Nat.le_refl _) _
  have hx : ∀ i, 4 ≤ i → (w.alloc (.cells #[.int .i64 0, .slice none 0 0, .int .i64 0, .int .i64 0] 44)).cell? ⟨w.heap.size, i, none⟩ = none := fun i hi => by
    rw [World.cell?_alloc_at _ _ _ _ rfl]
    simp
    omega
  have hs : (w.alloc (.cells #[.int .i64 0, .slice none 0 0, .int .i64 0, .int .i64 0] 44)).heap.size = w.heap.size + 1 := by simp
  generalize w.alloc (.cells #[.int .i64 0, .slice none 0 0, .int .i64 0, .int .i64 0] 44) = W at *
  have t := ThreeAt.new W (.int .i64 0) (.int .i64 (-1)) (.int .i64 0) 31
  have b2 : Below W.heap.size W (W.alloc (.cells #[.int .i64 0, .int .i64 (-1), .int .i64 0] 31)) := (Below.refl _ _).alloc (Nat.le_refl _) _
  rw [hs] at t
  refine ⟨⟨?_, ?_⟩, b1.trans (b2.mono (by omega)), q.on b2 q.lt, fun i hi => (b2.cell (p := ⟨w.heap.size, i, none⟩) q.lt).trans (hx i hi), t, fun _ => rfl, GrowE.start _⟩
  · have := b2.size; omega
  · exact t.lt
set_option maxRecDepth 100000 in
set_option maxHeartbeats 8000000 in
theorem refRead_any (s : ByteArray) (hs : s.size ≤ 100000) (w : World) :
    Calls Try.prog 12 #[.string s] w fun e w' => ReadOut s.data.toList w e w' := by
  have HSZ := Lib.hid (Lib.size_eq s)
  have HA : Hid (Rd s.data.toList 0 0 0 0 (-1) []) := Lib.hid (Rd.start _)
  have HM := Lib.hid (RdMem.start w)
  obtain ⟨i9, hi, hz0, hz1, hz2⟩ := info_edge
  go_enter Try.func12, Try.ntmps12
  have hN : w.heap.size < w.heap.size + 1 := by omega
  go_wp2_with fail
  generalize ((w.alloc (.cells #[.int .i64 0, .slice none 0 0, .int .i64 0, .int .i64 0] 44)).alloc (.cells #[.int .i64 0, .int .i64 (-1), .int .i64 0] 31)) = W0 at *
  generalize w.heap.size + 1 = H at *
  generalize hRe : w.heap.size = R at *
  go_loopw [3, 5, 6, 7] (fun v g k i wr => ∃ (f j ln : Nat) (n m : Int) (L : List Ed) (w0 : World), g = .int .i64 f ∧ k = .int .i64 ln ∧ i = .int .i64 j ∧ f ≤ j ∧ j ≤ s.size ∧ ln ≤ f ∧ L.length ≤ ln ∧ Hid (Rd s.data.toList f j ln n m L) ∧ Hid (RdMem R R H n m L v w w0 wr)) (fun _ _ _ i _ => s.size - (intOf i).toNat)
  case atStart => exact ⟨0, 0, 0, 0, -1, [], W0, rfl, rfl, rfl, by omega, by omega, by omega, by simp, HA, HM⟩
  case round =>
    obtain ⟨f, j, ln, n, m, L, w0, rfl, rfl, rfl, hf, hj, hln, hLl, HK, HF⟩ := hrel
    clear HA HM
    by_cases hlt : j < s.size
    · by_cases hc : s[j] = 10
      · have tc : (((s[j].toNat : Nat) : Int) == 10) = true := byte_yes (by decide) hc
        have hjl : Hid (j < s.data.toList.length) := Lib.hid (by rw [← HSZ.out]; exact hlt)
        have HC : Hid (s.data.toList[j]'hjl.out = 10) := Lib.hid hc
        clear hc
        have hbR : Hid (Below R w wr) := Lib.hid HF.out.2.1
        have hwr : R ≤ wr.heap.size := by have := HF.out.2.2.1.lt; omega
        have hne : R ≠ H := by omega
        have hne2 : H ≠ R := by omega
        have hsl : Hid (s.data.toList.length ≤ 16777216) := Lib.hid (by rw [← HSZ.out]; omega)
        have HP : Hid ((s.extract f j).data.toList = lnA s.data.toList f j) := Lib.hid (extract_mid s f j)
        have hxs : (s.extract f j).size ≤ 1000000 := by rw [ByteArray.size_extract]; omega
        by_cases h0 : ln = 0
        · subst h0
          have t1 : ((((0 : Nat) : Int) + 1) == 1) = true := rfl
          have HH := Lib.hid (fun w => refHead_any (s.extract f j) hxs w)
          rw [HP.out] at HH
          have hL0 : L = [] := List.length_eq_zero_iff.1 (by omega)
          subst hL0
          by_cases he : headE (lnA s.data.toList f j) = 0
          · have HK2 := Lib.hid (HK.out.first hjl.out HC.out he).1
            rw [he] at HH
            go_wp2_with fail
            refine (HH.out wr).mono ?_
            rintro e w1 ⟨rfl, hb1⟩
            have HF1 := Lib.hid (HF.out.on hwr hb1)
            obtain ⟨c0, c1, c2, f0, f1, f2⟩ := HF1.out.2.2.2.2.1
            have hl1 := HF1.out.2.2.2.2.1.lt
            generalize headN (lnA s.data.toList f j) = n' at *
            generalize headM (lnA s.data.toList f j) = m' at *
            have HF2 := Lib.hid (HF1.out.head (Nat.le_of_lt hN) hne n' m').2
            unfold lay3 at HF2
            clear HF HK he hb1 HH hwr hxs
            go_wp2
            go_roundw
            case rel => exact ⟨j + 1, j + 1, 1, n', m', [], _, by go_num, by go_num, by go_num, by omega, by omega, by omega, by simp, HK2, HF2⟩
            case measure => simp [intOf]; omega
          · have HB := Lib.hid (HK.out.first_bad hjl.out HC.out he)
            have HE0 := Lib.hid he
            have t2 : (headE (lnA s.data.toList f j) != 0) = true := by simpa using he
            clear he
            go_wp2_with fail
            refine (HH.out wr).mono ?_
            rintro e w1 ⟨rfl, hb1⟩
            have HF1 := Lib.hid (HF.out.on hwr hb1)
            generalize headN (lnA s.data.toList f j) = n' at *
            generalize headM (lnA s.data.toList f j) = m' at *
            generalize headE (lnA s.data.toList f j) = z at *
            have HQ2 := Lib.hid (lay3_quad (x := .int .i64 n') (y := .int .i64 m') (z := .int .i64 z) HF1.out.2.2.1 hne)
            have HT2 := Lib.hid (HF1.out.2.2.2.2.1.set (.int .i64 n') (.int .i64 m') (.int .i64 z))
            have HB2 := Lib.hid (lay3_below (x := .int .i64 n') (y := .int .i64 m') (z := .int .i64 z) HF1.out.2.1 (Nat.le_of_lt hN))
            unfold lay3 at HB2
            obtain ⟨c0, c1, c2, f0, f1, f2⟩ := HF1.out.2.2.2.2.1
            have hl1 := HF1.out.2.2.2.2.1.lt
            clear HF HK hb1 HH hwr hxs HF1
            go_upto_region 13 with fail
            generalize ((w1.setCell ⟨H, 0, none⟩ (.int .i64 n')).setCell ⟨H, 1, none⟩ (.int .i64 m')).setCell ⟨H, 2, none⟩ (.int .i64 z) = W2 at *
            clear c0 c1 c2 f0 f1 f2 hl1
            obtain ⟨-, -, c2, -, -, -⟩ := HT2.out
            obtain ⟨⟨r0, r1, r2, r3⟩, f0, f1, f2, f3⟩ := HQ2.out.cells
            have hl2 := HT2.out.lt
            have hl3 := HQ2.out.lt
            subst hRe
            have HX := Lib.hid (out_bad HB2.out HQ2.out (Nat.le_refl _) hsl.out HE0.out (by rw [HB.out]) (a := 1) (by rw [HB.out]))
            go_wp2
            obtain ⟨⟨d0, d1, d2, d3⟩, -⟩ := HX.out.1.cells
            exact bodyPost_ret (v := .agg #[.int .i64 0, .slice none 0 0, .int .i64 z, .int .i64 1]) (by simp [results, Try.results12, go_sem, d0, d1, d2, d3]) rfl HX.out.2
        · have t1 : (((ln : Int) + 1) == 1) = false := by rw [beq_eq_false_iff_ne]; omega
          have h1 : 1 ≤ ln := by omega
          obtain ⟨p, cap, rfl, -, -⟩ := HF.out.2.2.2.2.2.2.reads
          obtain ⟨c0, c1, c2, f0, f1, f2⟩ := HF.out.2.2.2.2.1
          have hl1 := HF.out.2.2.2.2.1.lt
          by_cases hm : (L.length : Int) = m
          · have HB := Lib.hid (HK.out.full h1 hjl.out HC.out hm)
            have tm : ((L.length : Int) == m) = true := by rw [beq_iff_eq]; exact hm
            obtain ⟨⟨r0, r1, r2, r3⟩, g0, g1, g2, g3⟩ := HF.out.2.2.1.cells
            have hl3 := HF.out.2.2.1.lt
            subst hRe
            have HX := Lib.hid (out_bad hbR.out HF.out.2.2.1 (Nat.le_refl _) hsl.out (e := 2) (by decide) HB.out.1 HB.out.2)
            clear HF HK hm
            go_wp2
            obtain ⟨⟨d0, d1, d2, d3⟩, -⟩ := HX.out.1.cells
            exact bodyPost_ret (v := .agg #[.int .i64 0, .slice none 0 0, .int .i64 2, .int .i64 ((ln : Int) + 1)]) (by simp [results, Try.results12, go_sem, d0, d1, d2, d3]) rfl HX.out.2
          · have tm : ((L.length : Int) == m) = false := by rw [beq_eq_false_iff_ne]; exact hm
            have hn := (HK.out.more h1).1
            have HH := Lib.hid (fun w => refEdge_any (s.extract f j) hxs n (by omega) (by omega) w)
            rw [HP.out] at HH
            have HLB : Hid (edgeE (lnA s.data.toList f j) n ≠ 0 → (readP (splitC 10 s.data.toList)).1 = edgeE (lnA s.data.toList f j) n ∧ (readP (splitC 10 s.data.toList)).2.1 = (ln : Int) + 1) := Lib.hid (HK.out.line_bad h1 hjl.out HC.out hm)
            have HLG : Hid (edgeE (lnA s.data.toList f j) n = 0 → Rd s.data.toList (j + 1) (j + 1) (ln + 1) n m (L ++ [edgeX (lnA s.data.toList f j) n])) := Lib.hid (HK.out.line h1 hjl.out HC.out hm)
            generalize edgeE (lnA s.data.toList f j) n = z at *
            generalize edgeX (lnA s.data.toList f j) n = x at *
            have hkeep : Hid (∀ W', Below wr.heap.size wr W' → W'.cell? ⟨H, 0, none⟩ = some (.int .i64 n)) := Lib.hid fun W' h => (h.cell (p := ⟨H, 0, none⟩) hl1).trans c0
            clear HK hm c2 f0 f1 f2
            go_upto_region 17 with fail
            go_cut [8] from 14 to 66 (fun v8 wx => ∃ X : Nat, v8 = .pointer (some ⟨X, 0, none⟩) ∧ Hid (Below wr.heap.size wr wx ∧ wr.heap.size ≤ X ∧ QuadAt X wx (.int .i64 x.1) (.int .i64 x.2.1) (.int .i64 x.2.2) (.int .i64 z)))
            case first =>
              have HK3 : Hid (∀ W W', (W.cell? ⟨H, 0, none⟩ = some (.int .i64 n) ∧ Hid (Below wr.heap.size wr W)) → Below W.heap.size W W' → (W'.cell? ⟨H, 0, none⟩ = some (.int .i64 n) ∧ Hid (Below wr.heap.size wr W'))) :=
                Lib.hid fun W W' h hb => ⟨hkeep.out _ (h.2.out.trans (hb.mono h.2.out.size)), Lib.hid (h.2.out.trans (hb.mono h.2.out.size))⟩
              have HK4 : Hid (∀ W X a b c d, (W.cell? ⟨H, 0, none⟩ = some (.int .i64 n) ∧ Hid (Below wr.heap.size wr W)) → wr.heap.size ≤ X → ((lay4 W X a b c d).cell? ⟨H, 0, none⟩ = some (.int .i64 n) ∧ Hid (Below wr.heap.size wr (lay4 W X a b c d)))) :=
                Lib.hid fun W X a b c d h hX => ⟨hkeep.out _ (lay4_below h.2.out hX), Lib.hid (lay4_below h.2.out hX)⟩
              refine wp_region_held_drew (S := fun W' => W'.cell? ⟨H, 0, none⟩ = some (.int .i64 n) ∧ Hid (Below wr.heap.size wr W')) (by kernel_rfl) (HK3.out _ _ ⟨c0, Lib.hid (Below.refl _ _)⟩ ((Below.refl _ _).drew)) (fun hHeld => ?_)
              refine dag_take (i := 0) (v := ?va0) rfl rfl (by kernel_rfl) (by kernel_rfl) (by kernel_rfl) (fun _ _ _ h => h) (Or.inl ⟨by kernel_rfl, fun w' hSw => ?hya0⟩) (by assumption) ?resta0
              case hya0 => ((try dsimp only at hSw); go_simp; (try with_reducible rfl))
              simp only [Act.put]
              refine dag_take (i := 1) (v := ?va1) rfl rfl (by kernel_rfl) (by kernel_rfl) (by kernel_rfl) (fun _ _ _ h => h) (Or.inl ⟨by kernel_rfl, fun w' hSw => ?hya1⟩) (by assumption) ?resta1
              case hya1 => ((try dsimp only at hSw); go_simp; (try with_reducible rfl))
              simp only [Act.put]
              refine dag_take (i := 2) (v := ?va2) rfl rfl (by kernel_rfl) (by kernel_rfl) (by kernel_rfl) (fun _ _ _ h => h) (Or.inl ⟨by kernel_rfl, fun w' hSw => ?hya2⟩) (by assumption) ?resta2
              case hya2 => ((try dsimp only at hSw); go_simp; (try with_reducible rfl))
              simp only [Act.put]
              refine dag_take (i := 3) (v := ?va3) rfl rfl (by kernel_rfl) (by kernel_rfl) (by kernel_rfl) (fun _ _ _ h => h) (Or.inl ⟨by kernel_rfl, fun w' hSw => ?hya3⟩) (by assumption) ?resta3
              case hya3 => ((try dsimp only at hSw); go_simp; (try with_reducible rfl))
              simp only [Act.put]
              refine dag_take (i := 4) (v := ?va4) rfl rfl (by kernel_rfl) (by kernel_rfl) (by kernel_rfl) (fun _ _ _ h => h) (Or.inl ⟨by kernel_rfl, fun w' hSw => ?hya4⟩) (by assumption) ?resta4
              case hya4 => ((try dsimp only at hSw); go_simp; (try with_reducible rfl))
              simp only [Act.put]
              refine dag_take (i := 5) (v := ?va5) rfl rfl (by kernel_rfl) (by kernel_rfl) (by kernel_rfl) (fun _ _ _ h => h) (Or.inl ⟨by kernel_rfl, fun w' hSw => ?hya5⟩) (by assumption) ?resta5
              case hya5 => ((try dsimp only at hSw); go_simp; (try with_reducible rfl))
              simp only [Act.put]
              have HD0 : Hid (Below wr.heap.size wr wr.drew ∧ wr.heap.size ≤ wr.drew.heap.size) := Lib.hid ⟨(Below.refl _ _).drew, by simp⟩
              generalize wr.drew = V0 at hHeld HD0 ⊢
              refine wpAnyH_ready (rs := [6, 7]) (by kernel_rfl) (by simp) ?_
              refine AllReadyH.cons rfl (fun K hK => ?_) (AllReadyH.cons rfl (fun K hK => ?_) AllReadyH.nil)
              · go_simp
                refine (HH.out _).mono ?_
                rintro e w1 ⟨rfl, hb1⟩
                go_wp2_with fail
                have HBB : Hid (Below wr.heap.size wr w1) := Lib.hid (HD0.out.1.trans (hb1.mono HD0.out.2))
                refine hK.out _ _ (HK3.out _ _ hHeld hb1) (fun hHeld => ?_)
                clear hK K hb1
                refine wpAnyH_ready (rs := [7]) (by kernel_rfl) (by simp) ?_
                refine AllReadyH.cons rfl (fun K hK => ?_) AllReadyH.nil
                go_simp
                refine hK.out _ _ (HK3.out _ _ hHeld ((Below.refl _ _).alloc (Nat.le_refl _) _)) (fun hHeld => ?_)
                clear hK K
                have HQ := Lib.hid (QuadAt.new w1 (.int .i64 0) (.int .i64 0) (.int .i64 0) (.int .i64 0) 34)
                have HXX : Hid (wr.heap.size ≤ w1.heap.size) := Lib.hid HBB.out.size
                replace HBB : Hid (Below wr.heap.size wr (w1.alloc (.cells #[.int .i64 0, .int .i64 0, .int .i64 0, .int .i64 0] 34))) := Lib.hid (HBB.out.trans (((Below.refl _ _).alloc (Nat.le_refl _) _).mono HXX.out))
                generalize w1.alloc (.cells #[.int .i64 0, .int .i64 0, .int .i64 0, .int .i64 0] 34) = V1 at *
                generalize w1.heap.size = X at *
                obtain ⟨⟨y0, y1, y2, y3⟩, z0, z1, z2, z3⟩ := HQ.out.cells
                have hq2 := HQ.out.lt
                refine wpAnyH_ready (rs := [8]) (by kernel_rfl) (by simp) ?_
                refine AllReadyH.cons rfl (fun K hK => ?_) AllReadyH.nil
                go_simp
                refine hK.out _ _ (HK4.out _ _ _ _ _ _ hHeld HXX.out) (fun hHeld => ?_)
                clear hK K
                refine wpAnyH_done (by kernel_rfl) ?_ _
                go_wp2_with fail
                go_meet
                case rel => exact ⟨_, rfl, Lib.hid ⟨lay4_below HBB.out HXX.out, HXX.out, HQ.out.set _ _ _ _⟩⟩
              · go_simp
                refine hK.out _ _ (HK3.out _ _ hHeld ((Below.refl _ _).alloc (Nat.le_refl _) _)) (fun hHeld => ?_)
                clear hK K
                have HQ0 := Lib.hid (QuadAt.new V0 (.int .i64 0) (.int .i64 0) (.int .i64 0) (.int .i64 0) 34)
                have HXX : Hid (wr.heap.size ≤ V0.heap.size) := Lib.hid HD0.out.2
                have HB1 : Hid (Below wr.heap.size wr (V0.alloc (.cells #[.int .i64 0, .int .i64 0, .int .i64 0, .int .i64 0] 34))) := Lib.hid (HD0.out.1.trans (((Below.refl _ _).alloc (Nat.le_refl _) _).mono HXX.out))
                generalize V0.alloc (.cells #[.int .i64 0, .int .i64 0, .int .i64 0, .int .i64 0] 34) = V1 at *
                generalize V0.heap.size = X at *
                refine wpAnyH_ready (rs := [6]) (by kernel_rfl) (by simp) ?_
                refine AllReadyH.cons rfl (fun K hK => ?_) AllReadyH.nil
                go_simp
                refine (HH.out _).mono ?_
                rintro e w1 ⟨rfl, hb1⟩
                go_wp2_with fail
                refine hK.out _ _ (HK3.out _ _ hHeld hb1) (fun hHeld => ?_)
                clear hK K
                have HBB : Hid (Below wr.heap.size wr w1) := Lib.hid (HB1.out.trans (hb1.mono HB1.out.size))
                have HQ := Lib.hid (HQ0.out.on hb1 HQ0.out.lt)
                clear hb1 HQ0
                obtain ⟨⟨y0, y1, y2, y3⟩, z0, z1, z2, z3⟩ := HQ.out.cells
                have hq2 := HQ.out.lt
                refine wpAnyH_ready (rs := [8]) (by kernel_rfl) (by simp) ?_
                refine AllReadyH.cons rfl (fun K hK => ?_) AllReadyH.nil
                go_simp
                refine hK.out _ _ (HK4.out _ _ _ _ _ _ hHeld HXX.out) (fun hHeld => ?_)
                clear hK K
                refine wpAnyH_done (by kernel_rfl) ?_ _
                go_wp2_with fail
                go_meet
                case rel => exact ⟨_, rfl, Lib.hid ⟨lay4_below HBB.out HXX.out, HXX.out, HQ.out.set _ _ _ _⟩⟩
            case rest =>
              obtain ⟨X, rfl, HC8⟩ := hcut
              obtain ⟨⟨q0, q1, q2, q3⟩, p0, p1, p2, p3⟩ := HC8.out.2.2.cells
              have hlX := HC8.out.2.2.lt
              have HF1 := Lib.hid (HF.out.on hwr HC8.out.1)
              clear HF HC8 c0 c1 hl1 hkeep HH
              by_cases hz : z = 0
              · have HRD := Lib.hid (HLG.out hz)
                subst hz
                have hw0 : w0.heap.size ≤ wc.heap.size := HF1.out.2.2.2.2.2.2.1.size
                clear HLB HLG
                go_wp2_with (first
                  | (at_builtin; refine wpList_append_own _ rfl _ _ 40 rfl w0.heap.size 27 i9 (.agg #[.int .i64 0, .int .i64 0, .int .i64 0]) 3 24 Try.underlying40 hi hz0 hz1 hz2 rfl (by decide) (.slice p L.length cap) L.length (flatE L) rfl (HF1.out.2.2.2.2.2.2.2.alloc _) ⟨wc.heap.size, 0, none⟩ 1 1 (cellE x) rfl rfl (three_newsAt rfl) ones_edge (by unfold maxLen; omega) (by omega) (by simp; omega) ?_; intro s3 w3 hown hg _; have HZ := Lib.hid (HF1.out.step (by omega) x hown hg); clear hown hg))
                go_roundw
                case rel => exact ⟨j + 1, j + 1, ln + 1, n, m, L ++ [x], w0, by go_num, by go_num, by go_num, by omega, by omega, by omega, by simp; omega, HRD, HZ⟩
                case measure => simp [intOf]; omega
              · have HB := Lib.hid (HLB.out hz)
                have HZ := Lib.hid hz
                have t2 : (z != 0) = true := by simpa using hz
                clear HLB HLG hz
                obtain ⟨⟨r0, r1, r2, r3⟩, g0, g1, g2, g3⟩ := HF1.out.2.2.1.cells
                have hl3 := HF1.out.2.2.1.lt
                subst hRe
                have HX := Lib.hid (out_bad HF1.out.2.1 HF1.out.2.2.1 (Nat.le_refl _) hsl.out HZ.out HB.out.1 HB.out.2)
                go_wp2
                obtain ⟨⟨d0, d1, d2, d3⟩, -⟩ := HX.out.1.cells
                exact bodyPost_ret (v := .agg #[.int .i64 0, .slice none 0 0, .int .i64 z, .int .i64 ((ln : Int) + 1)]) (by simp [results, Try.results12, go_sem, d0, d1, d2, d3]) rfl HX.out.2
      · have HK2 := Lib.hid (HK.out.skip (by rw [← HSZ.out]; exact hlt) hc)
        have tc : (((s[j].toNat : Nat) : Int) == 10) = false := byte_no (by decide) hc
        clear hc
        go_wp2
        go_roundw
        case rel => exact ⟨f, j + 1, ln, n, m, L, w0, rfl, rfl, by go_num, by omega, by omega, hln, hLl, HK2, HF⟩
        case measure => simp [intOf]; omega
    · have hnl : Hid (¬ j < s.data.toList.length) := Lib.hid (by rw [← HSZ.out]; exact hlt)
      have hsl : Hid (s.data.toList.length ≤ 16777216) := Lib.hid (by rw [← HSZ.out]; omega)
      have hwr : R ≤ wr.heap.size := by have := HF.out.2.2.1.lt; omega
      obtain ⟨p, cap, rfl, hrd, -⟩ := HF.out.2.2.2.2.2.2.reads
      have HRD := Lib.hid hrd
      clear hrd
      obtain ⟨c0, c1, c2, f0, f1, f2⟩ := HF.out.2.2.2.2.1
      have hl1 := HF.out.2.2.2.2.1.lt
      by_cases hb : f < s.size ∨ (L.length : Int) ≠ m
      · have HB := Lib.hid (HK.out.end_bad hnl.out (by rw [← HSZ.out]; exact hb))
        obtain ⟨⟨r0, r1, r2, r3⟩, g0, g1, g2, g3⟩ := HF.out.2.2.1.cells
        have hl3 := HF.out.2.2.1.lt
        subst hRe
        have HX := Lib.hid (out_bad HF.out.2.1 HF.out.2.2.1 (Nat.le_refl _) hsl.out (e := 2) (by decide) HB.out.1 HB.out.2)
        clear HF HK HRD
        by_cases hfs : f < s.size
        · clear hb
          go_wp2
          obtain ⟨⟨d0, d1, d2, d3⟩, -⟩ := HX.out.1.cells
          exact bodyPost_ret (v := .agg #[.int .i64 0, .slice none 0 0, .int .i64 2, .int .i64 ((ln : Int) + 1)]) (by simp [results, Try.results12, go_sem, d0, d1, d2, d3]) rfl HX.out.2
        · have hm : ((L.length : Int) != m) = true := by rw [bne_iff_ne]; exact hb.resolve_left hfs
          clear hb
          go_wp2
          obtain ⟨⟨d0, d1, d2, d3⟩, -⟩ := HX.out.1.cells
          exact bodyPost_ret (v := .agg #[.int .i64 0, .slice none 0 0, .int .i64 2, .int .i64 ((ln : Int) + 1)]) (by simp [results, Try.results12, go_sem, d0, d1, d2, d3]) rfl HX.out.2
      · have HG := Lib.hid (HK.out.end_good hnl.out (by rw [← HSZ.out]; exact hb))
        have hchk := HK.out.2.2.2.2.2.1
        have HE : Hid (errN n L = (0, 0)) := Lib.hid (err_good HG.out.2.1 HG.out.2.2 hchk)
        have HN := Lib.hid (refNewN_any n p cap L (by omega) (chk_inL HG.out.2.1.2 hchk) wr HRD.out)
        have hfs : ¬ f < s.size := fun h => hb (Or.inl h)
        have hm : ((L.length : Int) != m) = false := by rw [bne_eq_false_iff_eq]; exact Decidable.byContradiction fun e => hb (Or.inr e)
        clear hb hchk HRD
        go_wp2_with fail
        refine HN.out.mono ?_
        rintro e w1 ⟨hb1, ⟨hbad, -⟩ | ⟨-, M, q, c, hM, rfl, hrM⟩⟩
        · exact absurd (by rw [HE.out]) hbad
        · have HQ := Lib.hid (HF.out.2.2.1.on hb1 HF.out.2.2.1.lt)
          have HX4 : Hid (∀ i, 4 ≤ i → w1.cell? ⟨R, i, none⟩ = none) := Lib.hid fun i hi => (hb1.cell (p := ⟨R, i, none⟩) HF.out.2.2.1.lt).trans (HF.out.2.2.2.1 i hi)
          have HBB := Lib.hid (HF.out.2.1.trans (hb1.mono hwr))
          obtain ⟨⟨r0, r1, r2, r3⟩, g0, g1, g2, g3⟩ := HQ.out.cells
          have hl3 := HQ.out.lt
          subst hRe
          have HX := Lib.hid (out_good HBB.out HQ.out HX4.out (Nat.le_refl _) hsl.out HG.out.1 hM hrM (c := c))
          clear HF HK HN hb1 hM hrM HX4 HQ
          go_wp2
          obtain ⟨⟨d0, d1, d2, d3⟩, -⟩ := HX.out.1.cells
          exact bodyPost_ret (v := .agg #[.int .i64 n, .slice q M.length c, .int .i64 0, .int .i64 0]) (by simp [results, Try.results12, go_sem, d0, d1, d2, d3]) rfl HX.out.2
end Go.Proofs.Ytflnmkgpmjefhaa.Gr
