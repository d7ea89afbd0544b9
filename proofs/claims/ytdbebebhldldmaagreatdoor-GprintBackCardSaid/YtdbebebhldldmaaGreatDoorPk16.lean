/- Contract of Split. -/
import Derived.Test.YtdbebebhldldmaaGreatDoorPk15
namespace Go.Proofs.YtdbebebhldldmaaGreatDoor
open Go.RowKit Go.ChangeShapes EdPure NumPure
def SplitOut (l : List Ed) (w : World) (e : Ending) (w' : World) : Prop :=
  Below w.heap.size w w' ∧ ∃ q cap, e = .returned (.tuple #[.slice q (splitR l).length cap, .bool (splitB l)]) ∧ ReadsE w'.heap.size w' q (splitR l)
/-- What stands in the third cell. -/
def wAt (B : Nat) (w : World) : Nat := match w.cell? ⟨B, 2, none⟩ with | some (.int _ n) => n.toNat | _ => 0
theorem wAt_of {B : Nat} {w : World} {x : Int} (h : w.cell? ⟨B, 2, none⟩ = some (.int .i64 x)) : wAt B w = x.toNat := by unfold wAt; rw [h]
theorem ret_sl {q : Option Addr} {a b c : Nat} {x y : Bool} (h1 : a = b) (h2 : x = y) : Ending.returned (.tuple #[.slice q a c, .bool x]) = .returned (.tuple #[.slice q b c, .bool y]) := by rw [h1, h2]
def SplRel (w1 : World) (l : List Ed) (k : Nat) (s : Value) (wr : World) : Prop := k ≤ l.length ∧ GrowE w1 (splitL (l.take k)) s wr
def CutRel (w1 : World) (B : Nat) (all : List Ed) (u v : Int) (G : List Ed) (s : Value) (x : Int) (wr : World) : Prop := SplSt w1 B G s u v x wr ∧ G ++ piecesE (u, v, x) = all ∧ 0 ≤ x ∧ x ≤ 9223372036854775807
theorem CutRel.len {w1 wr : World} {B : Nat} {all G : List Ed} {s : Value} {u v x : Int} (h : CutRel w1 B all u v G s x wr) : G.length + 1 ≤ all.length := by
  rw [← h.2.1, List.length_append, pieces_len]; omega
theorem splitR_yes {l : List Ed} (h : splitB l = true) : splitR l = splitL l := if_pos h
theorem splitR_no {l : List Ed} (h : splitB l = false) : splitR l = [] := if_neg (by rw [h]; exact Bool.false_ne_true)
theorem splitB_cnt {l : List Ed} (h : splitB l = true) : cntL l ≤ 1048576 ∧ ∀ e ∈ l, 0 ≤ e.2.2 := by
  unfold splitB at h
  simp only [Bool.and_eq_true, decide_eq_true_eq] at h
  exact ⟨h.2, h.1⟩
set_option maxRecDepth 100000 in
set_option maxHeartbeats 1600000 in
theorem split_any (a : Option Addr) (c : Nat) (l : List Ed) (hl : l.length ≤ 1048576) (hI : InL l) (w : World) (hR : ReadsE w.heap.size w a l) :
    Calls Tryz.prog 23 #[.slice a l.length c] w fun e w' => SplitOut l w e w' := by
  have HC := Lib.hid (countSplit_any a c l hl hI w hR)
  have HR := Lib.hid hR
  have HI := Lib.hid hI
  clear hR hI
  cases hB : splitB l
  · have HX : Hid (splitR l = []) := Lib.hid (splitR_no hB)
    have HB := Lib.hid hB
    rw [hB] at HC
    clear hB
    generalize (cntR l : Int) = n at *
    go_enter Tryz.func23, Tryz.ntmps23
    go_wp2_with fail
    refine HC.out.mono ?_
    rintro e w1 ⟨rfl, hb1⟩
    have H1 := Lib.hid hb1
    clear hb1
    go_wp2
    go_ret2
    exact ⟨H1.out, none, 0, ret_sl (by rw [HX.out]; rfl) HB.out.symm, by rw [HX.out]; exact Or.inl rfl⟩
  · have HX : Hid (splitR l = splitL l) := Lib.hid (splitR_yes hB)
    have HB := Lib.hid hB
    have hn : cntR l = cntL l := if_pos hB
    have hcnt := (splitB_cnt hB).1
    rw [hB, hn] at HC
    have HN := Lib.hid (And.intro hcnt (splitB_cnt hB).2)
    clear hB hn
    obtain ⟨N, hN⟩ : ∃ N, N = cntL l := ⟨_, rfl⟩
    rw [← hN] at HC hcnt
    have HNN := Lib.hid hN
    clear hN
    go_enter Tryz.func23, Tryz.ntmps23
    go_wp2_with fail
    refine HC.out.mono ?_
    rintro e w1 ⟨rfl, hb1⟩
    obtain ⟨cur, hcur, hmk⟩ := make_edges N hcnt w1
    have HS : Hid (SplRel w1 l 0 (.slice (some ⟨w1.heap.size, 0, none⟩) 0 N) (w1.alloc (.cells cur 51))) := Lib.hid ⟨Nat.zero_le _, by rw [List.take_zero]; exact GrowE.made w1 w1 cur N (Below.refl _ _) hcnt hcur⟩
    have H1 := Lib.hid hb1
    clear hb1 hcur HC
    go_wp2
    clear hmk
    go_loopw [6, 20] (fun s i wr => ∃ (k : Nat) (s' : Value), s' = s ∧ i = .int .i64 k ∧ Hid (SplRel w1 l k s' wr)) (fun _ i _ => l.length - (intOf i).toNat)
    case atStart => exact ⟨0, _, rfl, rfl, HS⟩
    case round =>
      obtain ⟨k, s, rfl, rfl, HK⟩ := hrel
      clear HS
      have i0 : (0 : Int) ≤ (k : Int) := by omega
      have HBr : Hid (Below w.heap.size w wr) := Lib.hid (H1.out.trans (HK.out.2.1.mono H1.out.size))
      by_cases hlt : k < l.length
      · have i1 : (k : Int) < (l.length : Int) := by omega
        obtain ⟨u, v, x, he⟩ : ∃ u v x, l[k] = (u, v, x) := ⟨_, _, _, rfl⟩
        obtain ⟨b, off, rfl, hbw, hbr, c0, c1, c2⟩ := HR.out.cells hlt HBr.out he
        have hx : 0 ≤ x ∧ x ≤ 9223372036854775807 := by
          have h1 := HN.out.2 _ (List.getElem_mem hlt)
          have h2 := (HI.out.at hlt).2.2
          rw [he] at h1 h2
          exact ⟨h1, h2.2⟩
        have HA : Hid (splitL (l.take (k + 1)) = splitL (l.take k) ++ piecesE (u, v, x)) := Lib.hid (by rw [split_take hlt, he])
        have HL : Hid ((splitL (l.take (k + 1))).length ≤ 1048576) := Lib.hid (by rw [split_len]; exact Nat.le_trans (cnt_le _) HN.out.1)
        have HT : Hid (CutRel w1 wr.heap.size (splitL (l.take (k + 1))) u v (splitL (l.take k)) s x (wr.alloc (.cells #[.int .i64 u, .int .i64 v, .int .i64 x] 51))) := Lib.hid ⟨SplSt.start HK.out.2 _, HA.out.symm, hx.1, hx.2⟩
        clear he hx HA
        go_wp2
        obtain ⟨W0, hW0⟩ : ∃ W0, W0 = wr := ⟨_, rfl⟩
        obtain ⟨B, hBB⟩ : ∃ B, B = wr.heap.size := ⟨_, rfl⟩
        rw [← hBB] at HT ⊢
        subst hW0
        have HBB := Lib.hid hBB
        clear hBB
        go_loopw [6] (fun s wr => ∃ G s' x', s' = s ∧ Hid (CutRel w1 B (splitL (l.take (k + 1))) u v G s' x' wr)) (fun _ wr => wAt B wr)
        case atStart => exact ⟨_, _, _, rfl, HT⟩
        case round =>
          obtain ⟨G, s2, x2, rfl, HK2⟩ := hrel
          clear HT
          obtain ⟨d0, d1, d2, f0, f1, f2⟩ := HK2.out.1.2.1
          have hlenG : G.length + 1 ≤ 1048576 := Nat.le_trans HK2.out.len HL.out
          have hsz : w1.heap.size ≤ wr.heap.size := HK2.out.1.1.1.size
          have hx2 : x2 ≤ 9223372036854775807 := HK2.out.2.2.2
          have hx3 : 0 ≤ x2 := HK2.out.2.2.1
          obtain ⟨i9, hi, hz0, hz1, hz2⟩ := info_edge
          by_cases hgt : 2147483648 < x2
          · have HM : Hid (wAt B wr = x2.toNat) := Lib.hid (wAt_of d2)
            go_wp2_with (first
              | (at_builtin; refine wpList_append_own_at _ rfl _ _ 22 rfl w1.heap.size 51 i9 (.agg #[.int .i64 0, .int .i64 0, .int .i64 0]) 3 24 Tryz.underlying22 hi hz0 hz1 hz2 rfl (by decide) s2 G.length (flatE G) rfl (HK2.out.1.1.2.alloc _) ⟨wr.heap.size, 0, none⟩ 1 1 (cellE (u, v, 2147483648)) rfl rfl (three_newsAt rfl) ones_edge (by unfold maxLen; omega) (by omega) (by simp; omega) ?_; intro s3 w3 hown3 hg3 _ hl3; have HZ := Lib.hid (HK2.out.1.step (u, v, 2147483648) hown3 hg3 hl3); obtain ⟨k0, k1, k2, m0, m1, m2⟩ := HZ.out.2.1; clear hown3 hg3 hl3))
            have HN2 : Hid (CutRel w1 B (splitL (l.take (k + 1))) u v (G ++ [(u, v, 2147483648)]) s3 (x2 - 2147483648) (w3.setCell ⟨B, 2, none⟩ (.int .i64 (x2 - 2147483648)))) := Lib.hid
              ⟨HZ.out.store _, by rw [← HK2.out.2.1, pieces_next hgt, List.append_assoc]; rfl, by omega, by omega⟩
            exact ⟨⟨_, _, _, rfl, HN2⟩, by rw [wAt_of HN2.out.1.2.1.2.2.1, HM.out]; omega⟩
          · go_wp2_with (first
              | (at_builtin; refine wpList_append_own_at _ rfl _ _ 22 rfl w1.heap.size 51 i9 (.agg #[.int .i64 0, .int .i64 0, .int .i64 0]) 3 24 Tryz.underlying22 hi hz0 hz1 hz2 rfl (by decide) s2 G.length (flatE G) rfl (HK2.out.1.1.2.alloc _) ⟨wr.heap.size, 0, none⟩ 1 1 (cellE (u, v, x2)) rfl rfl (three_newsAt rfl) ones_edge (by unfold maxLen; omega) (by omega) (by simp; omega) ?_; intro s3 w3 hown3 hg3 _ hl3; have HZ := Lib.hid (HK2.out.1.1.step (u, v, x2) hown3 hg3); clear hown3 hg3 hl3))
            have HN2 : Hid (splitL (l.take (k + 1)) = G ++ [(u, v, x2)]) := Lib.hid (by rw [← HK2.out.2.1, pieces_low (by omega)])
            exact ⟨⟨k + 1, s3, rfl, by go_num, Lib.hid ⟨hlt, by rw [HN2.out]; exact HZ.out⟩⟩, by simp [intOf]; omega⟩
      · have hk : k = l.length := by have := HK.out.1; omega
        subst hk
        have hG := HK.out.2
        rw [List.take_length] at hG
        obtain ⟨p, cap, rfl, hp, -⟩ := hG.reads
        have HP := Lib.hid hp
        clear hG hp
        go_wp2
        go_ret2
        exact ⟨HBr.out, p, cap, ret_sl (by rw [HX.out]) HB.out.symm, by rw [HX.out]; exact HP.out⟩
end Go.Proofs.YtdbebebhldldmaaGreatDoor
