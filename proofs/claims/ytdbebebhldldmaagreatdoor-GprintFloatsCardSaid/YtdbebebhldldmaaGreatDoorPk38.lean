/- The document's text of edges with floats as weights (layer 18). -/
import Derived.Test.YtdbebebhldldmaaGreatDoorPk34
import Derived.Test.YtdbebebhldldmaaGreatDoorPk20
import Derived.Test.YtdbebebhldldmaaGreatDoorPk22
import Derived.Test.YtdbebebhldldmaaGreatDoorPk24
import Derived.Deep.Cut
namespace Go.Proofs.YtdbebebhldldmaaGreatDoor.Gp
open Go.RowKit Go.ChangeShapes EdPure DecPure WordPure GrPure GpPure NtPure Str FintPure
theorem agg_tii {S S' : ByteArray} {a b c d : Int} (h0 : S = S') (h1 : a = b) (h2 : c = d) : Ending.returned (.agg #[.string S, .int .i64 a, .int .i64 c]) = .returned (.agg #[.string S', .int .i64 b, .int .i64 d]) := by rw [h0, h1, h2]
theorem three_res {R : Nat} {w wr : World} {x y z : Value} (hb : Below w.heap.size w wr) (ht : ThreeAt R wr x y z) (hR : w.heap.size ≤ R) (x' y' z' : Value) :
    Below w.heap.size w (((wr.setCell ⟨R, 0, none⟩ x').setCell ⟨R, 1, none⟩ y').setCell ⟨R, 2, none⟩ z') ∧ ThreeAt R (((wr.setCell ⟨R, 0, none⟩ x').setCell ⟨R, 1, none⟩ y').setCell ⟨R, 2, none⟩ z') x' y' z' :=
  ⟨((hb.setCell (p := ⟨R, 0, none⟩) hR x').setCell (p := ⟨R, 1, none⟩) hR y').setCell (p := ⟨R, 2, none⟩) hR z', ht.set x' y' z'⟩
/-- At the head of a round: the result's place, the weights, the edges that were gathered. -/
def FltSt (w : World) (R X : Nat) (q : Option Addr) (cap : Nat) (a : Option Addr) (l : List Ed) (ws : List Nat) (L : List Ed) (s : Value) (w0 wr : World) : Prop :=
  Below w.heap.size w wr ∧ ThreeAt R wr (.string ⟨#[]⟩) (.int .i64 0) (.int .i64 0) ∧ ThreeAt X wr (.slice q ws.length cap) (.int .i64 0) (.int .i64 0) ∧ ReadsL encW wr.heap.size wr q ws ∧ ReadsE wr.heap.size wr a l ∧ GrowE w0 L s wr ∧ (R < w0.heap.size ∧ X < w0.heap.size)
theorem FltSt.on {w w0 wr w' : World} {R X : Nat} {q : Option Addr} {cap : Nat} {a : Option Addr} {l : List Ed} {ws : List Nat} {L : List Ed} {s : Value} (h : FltSt w R X q cap a l ws L s w0 wr) (hb : Below wr.heap.size wr w') : FltSt w R X q cap a l ws L s w0 w' :=
  ⟨h.1.trans (hb.mono h.1.size), h.2.1.on hb h.2.1.lt, h.2.2.1.on hb h.2.2.1.lt, h.2.2.2.1.over hb (Nat.le_refl _), h.2.2.2.2.1.over hb (Nat.le_refl _), h.2.2.2.2.2.1.on hb, h.2.2.2.2.2.2⟩
theorem FltSt.step {w w0 wr w' : World} {R X : Nat} {q : Option Addr} {cap : Nat} {a : Option Addr} {l : List Ed} {ws : List Nat} {L : List Ed} {s s' : Value} {o : Obj} (h : FltSt w R X q cap a l ws L s w0 wr) (x : Ed)
    (hq : ReadsL encW w0.heap.size w0 q ws) (ha : ReadsE w0.heap.size w0 a l) (hw : w.heap.size ≤ w0.heap.size)
    (h1 : w'.ownsRow w0.heap.size 51 3 s' (L.length + 1) (flatE L ++ cellE x)) (hg : (wr.alloc o).grownBy w' s.ownBlock) : FltSt w R X q cap a l ws (L ++ [x]) s' w0 w' := by
  obtain ⟨b1, t1, t2, r1, r2, g, hR, hX⟩ := h
  have hz := g.1.size
  have hgr : Below w0.heap.size wr w' := ((Below.refl _ _).alloc hz o).grown hg (by simp; omega) fun j hj => (g.2.lt j hj).1
  have hG := g.step x h1 hg
  exact ⟨b1.trans (hgr.mono hw), t1.on hgr hR, t2.on hgr hX, hq.over hG.1 (Nat.le_refl _), ha.over hG.1 (Nat.le_refl _), hG, hR, hX⟩
set_option maxRecDepth 100000 in
set_option maxHeartbeats 8000000 in
theorem refFloats_any (n : Int) (a : Option Addr) (c : Nat) (l : List Ed) (b : Option Addr) (cb : Nat) (ws : List Nat) (hn0 : -9223372036854775808 ≤ n) (hn1 : n ≤ 9223372036854775807) (hl : l.length ≤ 1000) (hws : ws.length ≤ 1000) (hI : InL l) (hW : WideL ws) (w : World) (hR : ReadsE w.heap.size w a l) (hB : ReadsL encU w.heap.size w b ws) :
    Calls Tryz.prog 17 #[.int .i64 n, .slice a l.length c, .slice b ws.length cb] w fun e w' => e = .returned (.agg #[.string ⟨(fltT n l ws).toArray⟩, .int .i64 (fltE n l ws), .int .i64 (fltAt n l ws)]) ∧ Below w.heap.size w w' := by
  have HI := Lib.hid hI
  have hbA : Below w.heap.size w (w.alloc (.cells #[.string ⟨#[]⟩, .int .i64 0, .int .i64 0] 44)) := (Below.refl _ _).alloc (Nat.le_refl _) _
  have HB0 := Lib.hid hbA
  have HT0 := Lib.hid (ThreeAt.new w (.string ⟨#[]⟩) (.int .i64 0) (.int .i64 0) 44)
  have HE0 := Lib.hid (hR.over hbA (Nat.le_refl _))
  have HU0 := Lib.hid (hB.over hbA (Nat.le_refl _))
  have HWd := Lib.hid hW
  obtain ⟨i9, hi, hz0, hz1, hz2⟩ := info_edge
  clear hI hR hB hW hbA
  go_enter Tryz.func17, Tryz.ntmps17
  go_upto_region 1 with fail
  generalize w.alloc (.cells #[.string ⟨#[]⟩, .int .i64 0, .int .i64 0] 44) = W0 at *
  by_cases hlen : l.length = ws.length
  · have tl : ((l.length : Int) != (ws.length : Int)) = false := by rw [bne_eq_false_iff_eq]; omega
    have HLEN := Lib.hid hlen
    clear hlen
    have HC := Lib.hid (refWeights_any b cb ws (First.firstBad weightE ws) W0 HWd.out HU0.out hws ⟨First.first_le _ _, First.first_good _ _, First.first_bad _ _⟩)
    obtain ⟨K, hKe⟩ : ∃ K, First.firstBad weightE ws = K := ⟨_, rfl⟩
    have HKB := Lib.hid (First.err_bad weightE ws K)
    have HKG := Lib.hid (First.err_good weightE ws)
    rw [hKe] at HC HKB HKG
    have HKE := Lib.hid hKe
    clear hKe
    go_wp2_with fail
    refine HC.out.mono ?_
    rintro e w1 ⟨⟨hKl, p, cap, rfl, hrw⟩ | ⟨hKl, rfl⟩, hb1⟩
    · have HE1 := Lib.hid (HKG.out hKl).1
      have hb2 : Below w1.heap.size w1 (w1.alloc (.cells #[.slice p ws.length cap, .int .i64 0, .int .i64 0] 88)) := (Below.refl _ _).alloc (Nat.le_refl _) _
      have hb3 := hb1.trans (hb2.mono hb1.size)
      have HB1 := Lib.hid (HB0.out.trans (hb3.mono HB0.out.size))
      have HT1 := Lib.hid (HT0.out.on hb3 HT0.out.lt)
      have HX1 := Lib.hid (ThreeAt.new w1 (.slice p ws.length cap) (.int .i64 0) (.int .i64 0) 88)
      have HQ1 := Lib.hid (hrw.over hb2 (Nat.le_refl _))
      have HE2 := Lib.hid (HE0.out.over hb3 (Nat.le_refl _))
      clear hb1 hb2 hb3 hrw HC HKB HKG HKE hKl
      go_upto_region 4 with fail
      generalize w1.alloc (.cells #[.slice p ws.length cap, .int .i64 0, .int .i64 0] 88) = W1 at *
      generalize w1.heap.size = X at *
      by_cases h1 : n < 0
      · have HV : Hid (fltE n l ws = 1 ∧ fltAt n l ws = 0 ∧ fltT n l ws = []) := Lib.hid (by
          have h := flt_low HLEN.out HE1.out h1
          exact ⟨h.1, h.2, flt_bad (by rw [h.1]; decide)⟩)
        obtain ⟨x0, x1, x2, -⟩ := HX1.out
        have xl := HX1.out.lt
        obtain ⟨r0, r1, r2, g0, g1, g2⟩ := HT1.out
        have rl := HT1.out.lt
        have HX := Lib.hid (three_res HB1.out HT1.out (Nat.le_refl _) (.string ⟨#[]⟩) (.int .i64 1) (.int .i64 0))
        go_wp2
        obtain ⟨d0, d1, d2, -⟩ := HX.out.2
        exact bodyPost_ret (v := .agg #[.string ⟨#[]⟩, .int .i64 1, .int .i64 0]) (by simp [results, Tryz.results17, go_sem, d0, d1, d2]) rfl ⟨agg_tii (by rw [HV.out.2.2]) HV.out.1.symm HV.out.2.1.symm, HX.out.1⟩
      by_cases h2 : 4096 < n
      · have HV : Hid (fltE n l ws = 3 ∧ fltAt n l ws = 0 ∧ fltT n l ws = []) := Lib.hid (by
          have h := flt_many HLEN.out HE1.out h1 (Or.inl h2)
          exact ⟨h.1, h.2, flt_bad (by rw [h.1]; decide)⟩)
        obtain ⟨x0, x1, x2, -⟩ := HX1.out
        have xl := HX1.out.lt
        obtain ⟨r0, r1, r2, g0, g1, g2⟩ := HT1.out
        have rl := HT1.out.lt
        have HX := Lib.hid (three_res HB1.out HT1.out (Nat.le_refl _) (.string ⟨#[]⟩) (.int .i64 3) (.int .i64 0))
        go_wp2
        obtain ⟨d0, d1, d2, -⟩ := HX.out.2
        exact bodyPost_ret (v := .agg #[.string ⟨#[]⟩, .int .i64 3, .int .i64 0]) (by simp [results, Tryz.results17, go_sem, d0, d1, d2]) rfl ⟨agg_tii (by rw [HV.out.2.2]) HV.out.1.symm HV.out.2.1.symm, HX.out.1⟩
      have h4 : ¬ (4096 < n ∨ 1048576 < l.length) := by omega
      obtain ⟨x0, x1, x2, -⟩ := HX1.out
      have xl := HX1.out.lt
      have HWL := Lib.hid (wOut_len HLEN.out)
      have HF0 : Hid (FltSt w w.heap.size X p cap a l ws ((wOut l ws).take 0) (.slice none 0 0) W1 W1) := Lib.hid ⟨HB1.out, HT1.out, HX1.out, HQ1.out, HE2.out, GrowE.start _, HT1.out.lt, HX1.out.lt⟩
      go_wp2_with fail
      clear x0 x1 x2 xl
      go_loopw [8, 9] (fun s i wr => ∃ k : Nat, i = .int .i64 k ∧ k ≤ l.length ∧ Hid (∀ j (hj : j < (wOut l ws).length), j < k → chkE n (wOut l ws)[j] = 0) ∧ Hid (FltSt w w.heap.size X p cap a l ws ((wOut l ws).take k) s W1 wr)) (fun _ i _ => l.length - (intOf i).toNat)
      case atStart => exact ⟨0, rfl, Nat.zero_le _, Lib.hid (fun j _ h => absurd h (by omega)), HF0⟩
      case round =>
        clear HF0
        obtain ⟨k, rfl, hk, HJ, HF⟩ := hrel
        by_cases hlt : k < l.length
        · have hkw : k < ws.length := by have := HLEN.out; omega
          have hko : k < (wOut l ws).length := by rw [HWL.out]; exact hlt
          obtain ⟨u, v, x0, he⟩ : ∃ u v x0, l[k] = (u, v, x0) := ⟨_, _, _, rfl⟩
          have HY : Hid ((wOut l ws)[k] = (u, v, weightN ws[k])) := Lib.hid (by rw [wOut_at hlt hkw hko, he])
          have HTK : Hid ((wOut l ws).take (k + 1) = (wOut l ws).take k ++ [(u, v, weightN ws[k])]) := Lib.hid (by rw [List.take_succ_eq_append_getElem hko, HY.out])
          have HTL : Hid (((wOut l ws).take k).length = k) := Lib.hid (by rw [List.length_take]; omega)
          obtain ⟨bl, off, hae, hbw, hbr, m0, m1, -⟩ := HF.out.2.2.2.2.1.cells hlt (Below.refl _ _) he
          obtain ⟨b2, off2, hpe, hbN, hck⟩ := HF.out.2.2.2.1.at hkw
          subst hae
          subst hpe
          unfold encW at hck
          have i2 : (k : Int) < (l.length : Int) := by omega
          have i3 : (k : Int) < (ws.length : Int) := by omega
          have HCK := Lib.hid (fun W => refCheck_any n (u, v, weightN ws[k]) W)
          unfold encE at HCK
          simp only at HCK
          clear he
          generalize weightN ws[k] = y at *
          have hX0 := HF.out.2.2.1.1
          have hXl := HF.out.2.2.1.lt
          have HCV : Hid (∀ W', Below wr.heap.size wr W' → W'.cell? ⟨bl, off + k * 3, none⟩ = some (.int .i64 u) ∧ W'.cell? ⟨bl, off + k * 3 + 1, none⟩ = some (.int .i64 v) ∧ W'.cell? ⟨X, 0, none⟩ = some (.slice (some ⟨b2, off2, none⟩) ws.length cap) ∧ W'.cell? ⟨b2, off2 + k, none⟩ = some (.int .i64 y)) :=
            Lib.hid fun W' hb => ⟨(hb.cell (p := ⟨bl, off + k * 3, none⟩) hbr).trans m0, (hb.cell (p := ⟨bl, off + k * 3 + 1, none⟩) hbr).trans m1, (hb.cell (p := ⟨X, 0, none⟩) hXl).trans hX0, (hb.cell (p := ⟨b2, off2 + k, none⟩) hbN).trans hck⟩
          go_upto_region 14 with fail
          have HB3 : Hid (Below wr.heap.size wr wr.drew) := Lib.hid ((Below.refl _ _).drew)
          refine wp_region_held_drew (S := fun W' => W'.cell? ⟨bl, off + k * 3, none⟩ = some (.int .i64 u) ∧ W'.cell? ⟨bl, off + k * 3 + 1, none⟩ = some (.int .i64 v) ∧ W'.cell? ⟨X, 0, none⟩ = some (.slice (some ⟨b2, off2, none⟩) ws.length cap) ∧ W'.cell? ⟨b2, off2 + k, none⟩ = some (.int .i64 y)) (by kernel_rfl) (HCV.out _ HB3.out) (fun hHeld => ?_)
          clear m0 m1 hck hX0
          generalize wr.drew = V at *
          have HBA : Hid (Below wr.heap.size wr (V.alloc (.cells #[.int .i64 0, .int .i64 0, .int .i64 0] 51))) := Lib.hid (HB3.out.trans (((Below.refl _ _).alloc (Nat.le_refl _) _).mono HB3.out.size))
          have HQ := Lib.hid (ThreeAt.new V (.int .i64 0) (.int .i64 0) (.int .i64 0) 51)
          have hVX : Hid (wr.heap.size ≤ V.heap.size) := Lib.hid HB3.out.size
          refine dag_take (i := 0) (v := ?ve0) rfl rfl (by kernel_rfl) (by kernel_rfl) (by kernel_rfl) (fun _ _ _ h => h) (Or.inl ⟨by kernel_rfl, fun w' hSw => ?hye0⟩) (by assumption) ?reste0
          case hye0 => ((try dsimp only at hSw); go_simp; (try with_reducible rfl))
          simp only [Act.put]
          refine dag_take (i := 1) (v := ?ve1) rfl rfl (by kernel_rfl) (by kernel_rfl) (by kernel_rfl) (fun _ _ _ h => h) (Or.inl ⟨by kernel_rfl, fun w' hSw => ?hye1⟩) (by assumption) ?reste1
          case hye1 => ((try dsimp only at hSw); go_simp; (try with_reducible rfl))
          simp only [Act.put]
          refine dag_take (i := 2) (v := ?ve2) rfl rfl (by kernel_rfl) (by kernel_rfl) (by kernel_rfl) (fun _ _ _ h => h) (Or.inl ⟨by kernel_rfl, fun w' hSw => ?hye2⟩) (by assumption) ?reste2
          case hye2 => ((try dsimp only at hSw); go_simp; (try with_reducible rfl))
          simp only [Act.put]
          refine dag_take (i := 3) (v := ?ve3) rfl rfl (by kernel_rfl) (by kernel_rfl) (by kernel_rfl) (fun _ _ _ h => h) (Or.inl ⟨by kernel_rfl, fun w' hSw => ?hye3⟩) (by assumption) ?reste3
          case hye3 => ((try dsimp only at hSw); go_simp; (try with_reducible rfl))
          simp only [Act.put]
          refine dag_take (i := 4) (v := ?ve4) rfl rfl (by kernel_rfl) (by kernel_rfl) (by kernel_rfl) (fun _ _ _ h => h) (Or.inl ⟨by kernel_rfl, fun w' hSw => ?hye4⟩) (by assumption) ?reste4
          case hye4 => ((try dsimp only at hSw); go_simp; (try with_reducible rfl))
          simp only [Act.put]
          refine dag_take (i := 5) (v := ?ve5) rfl rfl (by kernel_rfl) (by kernel_rfl) (by kernel_rfl) (fun _ _ _ h => h) (Or.inl ⟨by kernel_rfl, fun w' hSw => ?hye5⟩) (by assumption) ?reste5
          case hye5 => ((try dsimp only at hSw); go_simp; (try with_reducible rfl))
          simp only [Act.put]
          refine dag_take (i := 6) (v := ?ve6) rfl rfl (by kernel_rfl) (by kernel_rfl) (by kernel_rfl) (fun _ _ _ h => h) (Or.inl ⟨by kernel_rfl, fun w' hSw => ?hye6⟩) (by assumption) ?reste6
          case hye6 => ((try dsimp only at hSw); go_simp; (try with_reducible rfl))
          simp only [Act.put]
          refine dag_take (i := 7) (v := ?ve7) rfl rfl (by kernel_rfl) (by kernel_rfl) (by kernel_rfl) (fun _ _ _ h => h) (Or.inl ⟨by kernel_rfl, fun w' hSw => ?hye7⟩) (by assumption) ?reste7
          case hye7 => ((try dsimp only at hSw); go_simp; (try with_reducible rfl))
          simp only [Act.put]
          refine dag_take (i := 8) (v := ?ve8) rfl rfl (by kernel_rfl) (by kernel_rfl) (by kernel_rfl) (fun _ _ _ h => h) (Or.inl ⟨by kernel_rfl, fun w' hSw => ?hye8⟩) (by assumption) ?reste8
          case hye8 => ((try dsimp only at hSw); go_simp; (try with_reducible rfl))
          simp only [Act.put]
          refine dag_take (i := 9) (v := ?ve9) rfl rfl (by kernel_rfl) (by kernel_rfl) (by kernel_rfl) (fun _ _ _ h => h) (Or.inl ⟨by kernel_rfl, fun w' hSw => ?hye9⟩) (by assumption) ?reste9
          case hye9 => ((try dsimp only at hSw); go_simp; (try with_reducible rfl))
          simp only [Act.put]
          refine dag_take (i := 10) (v := ?ve10) rfl rfl (by kernel_rfl) (by kernel_rfl) (by kernel_rfl) (fun _ _ _ h => h) (Or.inl ⟨by kernel_rfl, fun w' hSw => ?hye10⟩) (by assumption) ?reste10
          case hye10 => ((try dsimp only at hSw); go_simp; (try with_reducible rfl))
          simp only [Act.put]
          refine dag_take (i := 11) (v := ?ve11) rfl rfl (by kernel_rfl) (by kernel_rfl) (by kernel_rfl) (fun _ _ _ h => h) (Or.inl ⟨by kernel_rfl, fun w' hSw => ?hye11⟩) (by assumption) ?reste11
          case hye11 => ((try dsimp only at hSw); go_simp; (try with_reducible rfl))
          simp only [Act.put]
          refine dag_take (i := 12) (v := ?ve12) rfl rfl (by kernel_rfl) (by kernel_rfl) (by kernel_rfl) (fun _ _ _ h => h) (Or.inl ⟨by kernel_rfl, fun w' hSw => ?hye12⟩) (by assumption) ?reste12
          case hye12 => ((try dsimp only at hSw); go_simp; (try with_reducible rfl))
          simp only [Act.put]
          refine dag_take (i := 13) (v := ?ve13) rfl rfl (by kernel_rfl) (by kernel_rfl) (by kernel_rfl) (fun _ _ _ h => h) (Or.inl ⟨by kernel_rfl, fun w' hSw => ?hye13⟩) (by assumption) ?reste13
          case hye13 => ((try dsimp only at hSw); go_simp; (try with_reducible rfl))
          simp only [Act.put]
          refine dag_take (i := 14) (v := ?ve14) rfl rfl (by kernel_rfl) (by kernel_rfl) (by kernel_rfl) (fun _ _ _ h => h) (Or.inl ⟨by kernel_rfl, fun w' hSw => ?hye14⟩) (by assumption) ?reste14
          case hye14 => ((try dsimp only at hSw); go_simp; (try with_reducible rfl))
          simp only [Act.put]
          refine dag_take (i := 15) (v := ?ve15) rfl rfl (by kernel_rfl) (by kernel_rfl) (by kernel_rfl) (fun _ _ _ h => h) (Or.inl ⟨by kernel_rfl, fun w' hSw => ?hye15⟩) (by assumption) ?reste15
          case hye15 => ((try dsimp only at hSw); go_simp; (try with_reducible rfl))
          simp only [Act.put]
          refine wpAnyH_ready (rs := [16]) (by kernel_rfl) (by simp) ?_
          refine AllReadyH.cons rfl (fun K hK => ?_) AllReadyH.nil
          go_simp
          go_wp2_with fail
          refine hK.out _ _ ?hSe16 (fun hHeld => ?reste16)
          case hSe16 => exact HCV.out _ HBA.out
          clear hK K
          generalize V.alloc (.cells #[.int .i64 0, .int .i64 0, .int .i64 0] 51) = V1 at *
          generalize V.heap.size = B at *
          obtain ⟨y0, y1, y2, z0, z1, z2⟩ := HQ.out
          have hlB := HQ.out.lt
          have HBS : Hid (Below wr.heap.size wr (((V1.setCell ⟨B, 0, none⟩ (.int .i64 u)).setCell ⟨B, 1, none⟩ (.int .i64 v)).setCell ⟨B, 2, none⟩ (.int .i64 y))) := Lib.hid (((HBA.out.setCell (p := ⟨B, 0, none⟩) hVX.out _).setCell (p := ⟨B, 1, none⟩) hVX.out _).setCell (p := ⟨B, 2, none⟩) hVX.out _)
          have HQS := Lib.hid (HQ.out.set (.int .i64 u) (.int .i64 v) (.int .i64 y))
          refine wpAnyH_ready (rs := [17]) (by kernel_rfl) (by simp) ?_
          refine AllReadyH.cons rfl (fun K hK => ?_) AllReadyH.nil
          go_simp
          go_wp2_with fail
          refine hK.out _ _ ?hSe17 (fun hHeld => ?reste17)
          case hSe17 => exact HCV.out _ HBS.out
          clear hK K
          refine wpAnyH_done (by kernel_rfl) ?_ _
          have HF2 := Lib.hid (HF.out.on HBS.out)
          clear HF HCV HBA HBS
          go_wp2_with fail
          generalize ((V1.setCell ⟨B, 0, none⟩ (.int .i64 u)).setCell ⟨B, 1, none⟩ (.int .i64 v)).setCell ⟨B, 2, none⟩ (.int .i64 y) = V2 at *
          clear y0 y1 y2 z0 z1 z2 hlB hHeld
          obtain ⟨y0, y1, y2, -⟩ := HQS.out
          have hlB := HQS.out.lt
          go_wp2_with fail
          refine (HCK.out _).mono ?_
          rintro e w4 ⟨rfl, hb4⟩
          have HF3 := Lib.hid (HF2.out.on hb4)
          have HQ3 := Lib.hid (HQS.out.on hb4 HQS.out.lt)
          clear hb4 HF2 HQS HCK y0 y1 y2 hlB
          obtain ⟨y0, y1, y2, -⟩ := HQ3.out
          have hlB := HQ3.out.lt
          by_cases hz : chkE n (u, v, y) = 0
          · have HJ2 : Hid (∀ j (hj : j < (wOut l ws).length), j < k + 1 → chkE n (wOut l ws)[j] = 0) := Lib.hid fun j hj hjk => by
              by_cases e : j = k
              · subst e; rw [HY.out]; exact hz
              · exact HJ.out j hj (by omega)
            have t3 : (chkE n (u, v, y) != 0) = false := by rw [hz]; rfl
            have hw0 : W1.heap.size ≤ w4.heap.size := HF3.out.2.2.2.2.2.1.1.size
            clear hz HJ HY
            generalize chkE n (u, v, y) = zc at *
            have hlt3 := HTL.out
            generalize hLe : (wOut l ws).take k = L at *
            have HLE := Lib.hid hLe
            clear hLe
            go_wp2_with (first
              | (at_builtin; refine wpList_append_own _ rfl _ _ 22 rfl W1.heap.size 51 i9 (.agg #[.int .i64 0, .int .i64 0, .int .i64 0]) 3 24 Tryz.underlying22 hi hz0 hz1 hz2 rfl (by decide) u8 L.length (flatE L) rfl (HF3.out.2.2.2.2.2.1.2.alloc _) ⟨w4.heap.size, 0, none⟩ 1 1 (cellE (u, v, y)) rfl rfl (three_newsAt rfl) ones_edge (by unfold maxLen; omega) (by omega) (by simp; omega) ?_; intro s3 w5 hown hg _; have HZ := Lib.hid (HF3.out.step (u, v, y) HQ1.out HE2.out HB1.out.size hown hg); clear hown hg))
            go_roundw
            case rel => exact ⟨k + 1, by go_num, hlt, HJ2, by rw [HTK.out]; exact HZ⟩
            case measure => simp [intOf]; omega
          · have HV : Hid (fltE n l ws = 4 ∧ fltAt n l ws = (k : Int) ∧ fltT n l ws = []) := Lib.hid (by
              have hb : badV n l ws = k := first_eq hko HJ.out (by rw [HY.out]; exact hz)
              have h := flt_v (n := n) HLEN.out HE1.out (by omega) (by omega) (by rw [hb]; exact hlt)
              rw [hb] at h
              exact ⟨h.1, h.2, flt_bad (by rw [h.1]; decide)⟩)
            have t3 : (chkE n (u, v, y) != 0) = true := by simpa using hz
            clear hz HJ HY
            generalize chkE n (u, v, y) = zc at *
            obtain ⟨r0, r1, r2, g0, g1, g2⟩ := HF3.out.2.1
            have rl := HF3.out.2.1.lt
            have HX := Lib.hid (three_res HF3.out.1 HF3.out.2.1 (Nat.le_refl _) (.string ⟨#[]⟩) (.int .i64 4) (.int .i64 (k : Int)))
            go_wp2
            obtain ⟨d0, d1, d2, -⟩ := HX.out.2
            exact bodyPost_ret (v := .agg #[.string ⟨#[]⟩, .int .i64 4, .int .i64 (k : Int)]) (by simp [results, Tryz.results17, go_sem, d0, d1, d2]) rfl ⟨agg_tii (by rw [HV.out.2.2]) HV.out.1.symm HV.out.2.1.symm, HX.out.1⟩
        · have hke : k = l.length := by omega
          have i2 : ¬ (k : Int) < (l.length : Int) := by omega
          have HLL : Hid ((wOut l ws).take k = wOut l ws) := Lib.hid (List.take_of_length_le (by rw [HWL.out]; omega))
          have HV : Hid (fltE n l ws = 0 ∧ fltAt n l ws = 0 ∧ fltT n l ws = textP n (wOut l ws)) := Lib.hid (by
            have hb : badV n l ws = (wOut l ws).length := First.first_all _ _ fun x hx => by
              obtain ⟨j, hj, rfl⟩ := List.mem_iff_getElem.1 hx
              exact HJ.out j hj (by rw [HWL.out] at hj; omega)
            exact flt_good (n := n) HLEN.out HE1.out (by omega) (by omega) (by rw [hb, HWL.out]; omega))
          rw [HLL.out] at HF
          have HIO := Lib.hid (wOut_in HI.out HLEN.out)
          obtain ⟨q3, cap3, rfl, hrd, -⟩ := HF.out.2.2.2.2.2.1.reads
          have HC3 := Lib.hid (refText_any n q3 cap3 (wOut l ws) (by have := HWL.out; omega) HIO.out hn0 hn1 wr hrd)
          obtain ⟨Z, hZ⟩ : ∃ Z : ByteArray, Z = ⟨(textP n (wOut l ws)).toArray⟩ := ⟨_, rfl⟩
          rw [← hZ] at HC3
          have HZ := Lib.hid hZ
          clear hZ hrd HJ hke
          go_wp2_with fail
          refine HC3.out.mono ?_
          rintro e w4 ⟨rfl, hb4⟩
          have HF3 := Lib.hid (HF.out.on hb4)
          clear hb4 HC3 HF
          obtain ⟨r0, r1, r2, g0, g1, g2⟩ := HF3.out.2.1
          have rl := HF3.out.2.1.lt
          have HX := Lib.hid (three_res HF3.out.1 HF3.out.2.1 (Nat.le_refl _) (.string Z) (.int .i64 0) (.int .i64 0))
          go_wp2
          obtain ⟨d0, d1, d2, -⟩ := HX.out.2
          exact bodyPost_ret (v := .agg #[.string Z, .int .i64 0, .int .i64 0]) (by simp [results, Tryz.results17, go_sem, d0, d1, d2]) rfl ⟨agg_tii (by rw [HV.out.2.2, HZ.out]) HV.out.1.symm HV.out.2.1.symm, HX.out.1⟩
    · have hz := (HKB.out hKl trivial).1
      have ha := (HKB.out hKl trivial).2
      have hne : weightE ws[K] ≠ 0 := by
        have := First.first_bad weightE ws
        rw [HKE.out] at this
        exact this hKl
      have HV : Hid (fltE n l ws = weightE ws[K] ∧ fltAt n l ws = (K : Int) ∧ fltT n l ws = []) := Lib.hid (by
        have h := flt_w (n := n) HLEN.out (by rw [hz]; exact hne)
        rw [hz, ha] at h
        exact ⟨h.1, h.2, flt_bad (by rw [h.1]; exact hne)⟩)
      have t2 : (weightE ws[K] != 0) = true := by simpa using hne
      clear hz ha hne HKB HKG HKE HC
      generalize weightE ws[K] = z at *
      have hb2 : Below w1.heap.size w1 (w1.alloc (.cells #[.slice none 0 0, .int .i64 z, .int .i64 (K : Int)] 88)) := (Below.refl _ _).alloc (Nat.le_refl _) _
      have hb3 := hb1.trans (hb2.mono hb1.size)
      have HB1 := Lib.hid (HB0.out.trans (hb3.mono HB0.out.size))
      have HT1 := Lib.hid (HT0.out.on hb3 HT0.out.lt)
      have HX1 := Lib.hid (ThreeAt.new w1 (.slice none 0 0) (.int .i64 z) (.int .i64 (K : Int)) 88)
      clear hb1 hb2 hb3
      go_upto_region 4 with fail
      generalize w1.alloc (.cells #[.slice none 0 0, .int .i64 z, .int .i64 (K : Int)] 88) = W1 at *
      generalize w1.heap.size = X at *
      obtain ⟨x0, x1, x2, -⟩ := HX1.out
      have xl := HX1.out.lt
      obtain ⟨r0, r1, r2, g0, g1, g2⟩ := HT1.out
      have rl := HT1.out.lt
      have HX := Lib.hid (three_res HB1.out HT1.out (Nat.le_refl _) (.string ⟨#[]⟩) (.int .i64 z) (.int .i64 (K : Int)))
      go_wp2
      obtain ⟨d0, d1, d2, -⟩ := HX.out.2
      exact bodyPost_ret (v := .agg #[.string ⟨#[]⟩, .int .i64 z, .int .i64 (K : Int)]) (by simp [results, Tryz.results17, go_sem, d0, d1, d2]) rfl ⟨agg_tii (by rw [HV.out.2.2]) HV.out.1.symm HV.out.2.1.symm, HX.out.1⟩
  · have tl : ((l.length : Int) != (ws.length : Int)) = true := by rw [bne_iff_ne]; omega
    have HV : Hid (fltE n l ws = 1 ∧ fltAt n l ws = 0 ∧ fltT n l ws = []) := Lib.hid (by
      have h := flt_len (n := n) hlen
      exact ⟨h.1, h.2, flt_bad (by rw [h.1]; decide)⟩)
    obtain ⟨r0, r1, r2, g0, g1, g2⟩ := HT0.out
    have rl := HT0.out.lt
    have HX := Lib.hid (three_res HB0.out HT0.out (Nat.le_refl _) (.string ⟨#[]⟩) (.int .i64 1) (.int .i64 0))
    go_wp2
    obtain ⟨d0, d1, d2, -⟩ := HX.out.2
    exact bodyPost_ret (v := .agg #[.string ⟨#[]⟩, .int .i64 1, .int .i64 0]) (by simp [results, Tryz.results17, go_sem, d0, d1, d2]) rfl ⟨agg_tii (by rw [HV.out.2.2]) HV.out.1.symm HV.out.2.1.symm, HX.out.1⟩
end Go.Proofs.YtdbebebhldldmaaGreatDoor.Gp
