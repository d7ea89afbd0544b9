/- Contract of New: going over the edges once puts each vertex's arcs. -/
import Derived.Test.YtaoocokcfppmaaaCsPartsOf
import Derived.Test.YtaoocokcfppmaaaCsOut
import Derived.Deep.RegionLaw
import Derived.Deep.CutRange
namespace Go.Proofs.Ytaoocokcfppmaaa.Cs
open Go.RowKit Go.ChangeShapes EdPure NtPure CsPure
/-- While arcs are put. -/
def PutsSt (w0 w1 : World) (b R n : Nat) (M : List Ed) (L : Nat → List Nat) (wr : World) : Prop := Below w0.heap.size w0 wr ∧ Below w1.heap.size w1 wr ∧ CutSt w1.heap.size b R n M L wr ∧ w0.heap.size ≤ w1.heap.size
theorem PutsSt.keep {w0 w1 W W' : World} {b R n : Nat} {M : List Ed} {L : Nat → List Nat} (h : PutsSt w0 w1 b R n M L W) (hb : Below W.heap.size W W') : PutsSt w0 w1 b R n M L W' :=
  ⟨h.1.trans (hb.mono h.1.size), h.2.1.trans (hb.mono h.2.1.size), h.2.2.1.keep hb, h.2.2.2⟩
theorem PutsSt.put {w0 w1 W : World} {b R n : Nat} {M : List Ed} {L : Nat → List Nat} (h : PutsSt w0 w1 b R n M L W) {i : Nat} (hi : i < n) (hr : (L i).length + 1 ≤ roomN M i) (x : Nat) :
    PutsSt w0 w1 b R n M (updN L i (L i ++ [x])) ((W.setCell ⟨R, fromN M i + (L i).length, none⟩ (.int .i64 (x : Int))).setCell ⟨b, i, none⟩ (.slice (some ⟨R, fromN M i, none⟩) ((L i).length + 1) (roomN M i))) := by
  obtain ⟨h1, h2, h3, h4⟩ := h
  have hB := h3.1.1.1
  have hR := h3.1.2.1.1
  exact ⟨(h1.setCell (p := ⟨R, _, none⟩) (Nat.le_trans h4 hR) _).setCell (p := ⟨b, _, none⟩) (Nat.le_trans h4 hB) _, (h2.setCell (p := ⟨R, _, none⟩) hR _).setCell (p := ⟨b, _, none⟩) hB _, h3.put hi hr x, h4⟩
/-- What the append of one arc asks, and what it leaves, over the news' own block. -/
theorem PutsSt.put2 {w0 w1 W : World} {b R n : Nat} {M : List Ed} {L : Nat → List Nat} {o : Obj} (h : PutsSt w0 w1 b R n M L W) {i : Nat} (hi : i < n) (hr : (L i).length + 1 ≤ roomN M i) (x : Nat) :
    (∀ j, j < 1 → ((W.alloc o).drew.cell? ⟨R, fromN M i + (L i).length * 1 + j, none⟩).isSome = true ∧ (W.alloc o).drew.frozen? ⟨R, fromN M i + (L i).length * 1 + j, none⟩ = false) ∧
    (((W.alloc o).setCell ⟨R, fromN M i + (L i).length, none⟩ (.int .i64 (x : Int))).cell? ⟨b, i, none⟩ = some (.slice (some ⟨R, fromN M i, none⟩) (L i).length (roomN M i)) ∧ (W.alloc o).frozen? ⟨b, i, none⟩ = false) ∧
    PutsSt w0 w1 b R n M (updN L i (L i ++ [x])) (((W.alloc o).setCell ⟨R, fromN M i + (L i).length, none⟩ (.int .i64 (x : Int))).setCell ⟨b, i, none⟩ (.slice (some ⟨R, fromN M i, none⟩) ((L i).length + 1) (roomN M i))).drew := by
  have hk := h.keep (W' := W.alloc o) ((Below.refl _ _).alloc (Nat.le_refl _) o)
  obtain ⟨g1, g2, g3, g4⟩ := hk.2.2.1.at hi hr
  refine ⟨fun j hj => ?_, ⟨(World.cell?_setCell_other _ _ _ _ (fun e => hk.2.2.1.1.2.2 (congrArg Addr.block e).symm)).trans g1, g2⟩, (hk.put hi hr x).keep (Below.refl _ _).drew⟩
  obtain rfl : j = 0 := by omega
  rw [Nat.mul_one, Nat.add_zero]
  exact ⟨g3, g4⟩
theorem three_put {K b R i j : Nat} {W : World} {o : Obj} {x y a0 a1 a2 : Value} (h : ThreeAt K W a0 a1 a2) (hb : b < K) (hR : R < K) : ThreeAt K (((W.alloc o).setCell ⟨R, i, none⟩ x).setCell ⟨b, j, none⟩ y).drew a0 a1 a2 :=
  have hk : ThreeAt K (W.alloc o) a0 a1 a2 := h.on ((Below.refl W.heap.size W).alloc (Nat.le_refl _) o) h.lt
  three_sameN hk ((Below.heap_setCell _ _ _ K (fun e => by have : K = b := e; omega)).trans (Below.heap_setCell _ _ _ K (fun e => by have : K = R := e; omega)))
set_option maxRecDepth 100000 in
set_option maxHeartbeats 2000000 in
theorem newArcs_any (p : Option Addr) (n : Nat) (M : List Ed) (hn : n ≤ 4096) (hG : GoodN n M) (hM : M.length ≤ 10000) (w : World) (h : NetAt p n M w) :
    Calls Try.prog 7 #[.pointer p] w fun e w' => Below w.heap.size w w' ∧ ∃ r, e = .returned (.pointer r) ∧ ArcsAt r n M w' ∧ (p ≠ none → ∃ g, r = some ⟨g, 0, none⟩) := by
  have HN := Lib.hid h
  have HG := Lib.hid hG
  clear h hG
  go_enter Try.func7, Try.ntmps7
  go_wp2_with fail
  refine (edges_any p n M (by omega) w HN.out).mono ?_
  rintro e w1 ⟨hb1, q, c, rfl, hr⟩
  have HB1 := Lib.hid hb1
  have HR := Lib.hid hr
  have HN1 := Lib.hid (HN.out.over hb1)
  clear hb1 hr HN
  go_wp2_with fail
  refine (partsOf_any p n M hn HG.out hM w1 HN1.out).mono ?_
  rintro e w2 ⟨hb2, b, R, rfl, hc⟩
  have HS : Hid (PutsSt w w1 b R n M (fun i => outE M (i : Int) 0) w2) := Lib.hid ⟨HB1.out.trans (hb2.mono HB1.out.size), hb2, hc, HB1.out.size⟩
  clear hb2 hc HN1 HB1
  go_wp2_with fail
  go_loopw [13] (fun i wr => ∃ k : Nat, i = .int .i64 k ∧ k ≤ M.length ∧ Hid (PutsSt w w1 b R n M (fun i => outE M (i : Int) k) wr)) (fun i _ => M.length - (intOf i).toNat)
  case atStart => exact ⟨0, rfl, Nat.zero_le _, HS⟩
  case round =>
    obtain ⟨k, rfl, hk, HK⟩ := hrel
    clear HS
    have i0 : (0 : Int) ≤ (k : Int) := by omega
    by_cases hlt : k < M.length
    · have i1 : (k : Int) < (M.length : Int) := by omega
      obtain ⟨u, v, x, he⟩ : ∃ u v : Nat, ∃ x, M[k] = ((u : Int), (v : Int), x) := by
        have h1 := HG.out.2.1 M[k] (List.getElem_mem hlt)
        have h2 := (HG.out.1.2 M[k] (List.getElem_mem hlt)).1
        exact ⟨M[k].1.toNat, M[k].2.1.toNat, M[k].2.2, by rw [Int.toNat_of_nonneg (by omega), Int.toNat_of_nonneg (by omega)]⟩
      have huv : u < v ∧ v < n := by
        have h1 := HG.out.2.1 M[k] (List.getElem_mem hlt)
        have h2 := (HG.out.1.2 M[k] (List.getElem_mem hlt)).1
        rw [he] at h1 h2
        simp only at h1 h2
        omega
      obtain ⟨eb, off, rfl, hbw, hbr, c0, c1, c2⟩ := HR.out.cells hlt HK.out.2.1 he
      have HT := Lib.hid (outE_two hlt he (by omega))
      have HL := Lib.hid (outE_less hlt he (by omega))
      have H1 : Hid (PutsSt w w1 b R n M (fun i => outE M (i : Int) k) (wr.alloc (.cells #[.int .i64 (u : Int), .int .i64 (v : Int), .int .i64 x] 48)) ∧ ThreeAt wr.heap.size (wr.alloc (.cells #[.int .i64 (u : Int), .int .i64 (v : Int), .int .i64 x] 48)) (.int .i64 u) (.int .i64 v) (.int .i64 x) ∧ b < wr.heap.size ∧ R < wr.heap.size) :=
        Lib.hid ⟨HK.out.keep ((Below.refl _ _).alloc (Nat.le_refl _) _), ThreeAt.new _ _ _ _ _, HK.out.2.2.1.1.1.2, HK.out.2.2.1.1.2.1.2⟩
      clear he HK
      go_upto_region 6 with fail
      clear c0 c1 c2 hbw hbr
      generalize wr.alloc (.cells #[.int .i64 (u : Int), .int .i64 (v : Int), .int .i64 x] 48) = W1 at *
      generalize wr.heap.size = K at *
      obtain ⟨i1', hi1, hi2, hi3, hi4⟩ := info_parts (show (Try.prog.info? 3).map (fun i => (i.zero, i.size, i.bytes)) = some (some (.int .i64 0), 1, 8) by kernel_rfl)
      obtain ⟨Y, hY⟩ : ∃ Y : Nat, 2 * k = Y := ⟨_, rfl⟩
      have hw : IntKind.i64.wrap (2 * (k : Int)) = (Y : Int) := by
        rw [show 2 * (k : Int) = (Y : Int) by omega]
        simp only [IntKind.wrap, IntKind.bits, IntKind.signed]
        simp
        omega
      have q0 : (0 : Int) ≤ (u : Int) := by omega
      have q1 : (u : Int) < (n : Int) := by omega
      have q2 : (0 : Int) ≤ (v : Int) := by omega
      have q3 : (v : Int) < (n : Int) := by omega
      obtain ⟨L1, hL1⟩ : ∃ L1 : Nat → List Nat, (fun i : Nat => outE M (i : Int) k) = L1 := ⟨_, rfl⟩
      have HLL : Hid ((L1 u).length + 1 ≤ roomN M u ∧ (L1 v).length + 1 ≤ roomN M v) := Lib.hid (by rw [← hL1]; exact HL.out)
      have HFIN : Hid ((fun i : Nat => outE M (i : Int) (k + 1)) = updN (updN L1 u (L1 u ++ [Y])) v (L1 v ++ [Y + 1])) := Lib.hid (by
        obtain ⟨e1, e2, e3⟩ := HT.out
        funext i
        by_cases h1 : i = v
        · subst h1
          rw [updN_at, ← hL1, e2, hY]
        · rw [updN_ne _ _ h1]
          by_cases h2 : i = u
          · subst h2
            rw [updN_at, ← hL1, e1, hY]
          · rw [updN_ne _ _ h2, ← hL1, e3 i h2 h1])
      rw [hL1] at H1
      clear HL HT hL1
      have hZ : Y + 1 ≤ 20001 := by omega
      obtain ⟨Z, hYZ⟩ : ∃ Z : Nat, Y + 1 = Z := ⟨_, rfl⟩
      have hw2 : IntKind.i64.wrap ((Y : Int) + 1) = (Z : Int) := by
        rw [show (Y : Int) + 1 = (Z : Int) by omega]
        simp only [IntKind.wrap, IntKind.bits, IntKind.signed]
        simp
        omega
      rw [hYZ] at HFIN
      have huv2 : u ≠ v := by omega
      clear hY hYZ hZ huv
      obtain ⟨⟨a0, a1, a2, -, -, -⟩, hKb, hKR⟩ := H1.out.2
      have hKl := H1.out.2.1.lt
      have hbl : b < W1.heap.size := Nat.lt_trans hKb hKl
      obtain ⟨d0, d1, -, -⟩ := H1.out.1.2.2.1.at (i := u) (by omega) HLL.out.1
      have HP := Lib.hid (fun o => H1.out.1.put2 (o := o) (i := u) (by omega) HLL.out.1 Y)
      have HT := Lib.hid (fun o i j a c => three_put (o := o) (i := i) (j := j) (x := a) (y := c) H1.out.2.1 hKb hKR)
      have HKK := Lib.hid H1.out.2.2
      go_cut [] from 18 to 45 (fun wx => Hid (PutsSt w w1 b R n M (updN L1 u (L1 u ++ [Y])) wx ∧ ThreeAt K wx (.int .i64 u) (.int .i64 v) (.int .i64 x) ∧ b < K ∧ R < K))
      case first =>
        obtain ⟨m0, m1⟩ := (HP.out (.cells #[.int .i64 (Y : Int)] 3)).2.1
        go_region_law (refine step_append_room rfl _ _ 32 rfl 3 i1' 1 Try.underlying32 hi1 hi3 R (fromN M u) (L1 u).length (roomN M u) (by simp [Act.eval]) ⟨W1.heap.size, 0, none⟩ 1 1 [.int .i64 (Y : Int)] (by simp [Act.eval]) rfl (fun j u hj => one_news (w := W1) (u := .int .i64 (Y : Int)) (T := 3) j u hj) (by simp [Value.oneCell']) HLL.out.1 (fun j hj => (HP.out _).1 j hj) ?_; rw [set_one, Nat.mul_one])
        all_goals (go_wp2_with fail; go_meet)
        all_goals (case rel => exact Lib.hid ⟨(HP.out _).2.2, HT.out _ _ _ _ _, HKK.out⟩)
      case rest =>
        clear a0 a1 a2 d0 d1 hKl hbl hKb hKR HP HT HKK H1
        go_wp2_with fail
        obtain ⟨L2, hL2⟩ : ∃ L2 : Nat → List Nat, updN L1 u (L1 u ++ [Y]) = L2 := ⟨_, rfl⟩
        have h2v : L2 v = L1 v := by rw [← hL2, updN_ne _ _ (fun e => huv2 e.symm)]
        have HLV : Hid ((L2 v).length + 1 ≤ roomN M v) := Lib.hid (by rw [h2v]; exact HLL.out.2)
        rw [hL2, ← h2v] at HFIN
        rw [hL2] at hcut
        have H2 := hcut
        clear hL2 h2v hcut HLL
        obtain ⟨⟨a0, a1, a2, -, -, -⟩, hKb, hKR⟩ := H2.out.2
        have hKl := H2.out.2.1.lt
        have hbl : b < wc.heap.size := Nat.lt_trans hKb hKl
        obtain ⟨d0, d1, -, -⟩ := H2.out.1.2.2.1.at (i := v) (by omega) HLV.out
        have HP := Lib.hid (fun o => H2.out.1.put2 (o := o) (i := v) (by omega) HLV.out Z)
        have HT := Lib.hid (fun o i j a c => three_put (o := o) (i := i) (j := j) (x := a) (y := c) H2.out.2.1 hKb hKR)
        have HKK := Lib.hid H2.out.2.2
        obtain ⟨m0, m1⟩ := (HP.out (.cells #[.int .i64 (Z : Int)] 3)).2.1
        go_region_law (refine step_append_room rfl _ _ 32 rfl 3 i1' 1 Try.underlying32 hi1 hi3 R (fromN M v) (L2 v).length (roomN M v) (by simp [Act.eval]) ⟨wc.heap.size, 0, none⟩ 1 1 [.int .i64 (Z : Int)] (by simp [Act.eval]) rfl (fun j u hj => one_news (w := wc) (u := .int .i64 (Z : Int)) (T := 3) j u hj) (by simp [Value.oneCell']) HLV.out (fun j hj => (HP.out _).1 j hj) ?_; rw [set_one, Nat.mul_one])
        all_goals (go_wp2_with fail; go_roundw)
        all_goals first
          | (refine ⟨k + 1, by go_num, hlt, Lib.hid ?_⟩; rw [HFIN.out]; exact (HP.out _).2.2)
          | (simp [intOf]; omega)
    · have hk2 : k = M.length := by omega
      subst hk2
      have hbo : ∀ o, Below wr.heap.size wr (wr.alloc o) := fun o => (Below.refl _ _).alloc (Nat.le_refl _) _
      have HB := Lib.hid (fun o => HK.out.1.trans ((hbo o).mono HK.out.1.size))
      have HRR := Lib.hid (fun o => ((HR.out.over HK.out.2.1 (Nat.le_refl _)).over (hbo o) (Nat.le_refl _)))
      have HPP := Lib.hid (fun o => (HK.out.2.2.1.reads).over (hbo o) (Nat.le_refl _))
      clear hbo HK
      go_wp2
      go_ret
      exact ⟨HB.out _, some ⟨wr.heap.size, 0, none⟩, rfl, Or.inr ⟨wr.heap.size, q, c, some ⟨b, 0, none⟩, n, rfl, by simp, by simp, by simp, HRR.out _, HPP.out _⟩, fun _ => ⟨_, rfl⟩⟩
end Go.Proofs.Ytaoocokcfppmaaa.Cs
