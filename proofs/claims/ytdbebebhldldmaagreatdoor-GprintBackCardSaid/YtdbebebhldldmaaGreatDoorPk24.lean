/- Texts that the laws of this seat stand on, part 24. -/
import Derived.Test.YtdbebebhldldmaaGreatDoorPk23
import Derived.Sort.OwnSorted
import Derived.Test.YtdbebebhldldmaaGreatDoorPk13
import Derived.Test.YtdbebebhldldmaaGreatDoorPk12
import Derived.Test.YtdbebebhldldmaaGreatDoorPk11
import Derived.Deep.RegionWith
/- Contract of Merge. -/
namespace Go.Proofs.YtdbebebhldldmaaGreatDoor
open Go.RowKit Go.ChangeShapes Go.Maps EdPure NumPure
/-- What Merge answers. -/
def MergeOut (r : Option (List Ed)) (w : World) (e : Ending) (w' : World) : Prop :=
  Below w.heap.size w w' ∧ ((r = none ∧ e = .returned (.tuple #[.slice none 0 0, .bool false])) ∨
    ∃ A q cap, r = some A ∧ e = .returned (.tuple #[.slice q A.length cap, .bool true]) ∧ ReadsE w'.heap.size w' q A)
theorem rows_edge {g : Nat} {w : World} {l : List Ed} (h : RowIs g w (flatE l)) : ReadsE w.heap.size w (some ⟨g, 0, none⟩) l := by
  by_cases h0 : l = []
  · exact Or.inl h0
  have hl : 0 < l.length := List.length_pos_iff.2 h0
  refine Or.inr ⟨g, 0, rfl, h.lt (by rw [flatE_len]; omega), fun i hi => ?_⟩
  obtain ⟨e0, e1, e2⟩ := flatE_at hi
  have at' : ∀ {j : Nat} {v : Value}, (flatE l)[j]? = some v → w.cell? ⟨g, j, none⟩ = some v := fun {j v} hj => by
    obtain ⟨hlt, hv⟩ := List.getElem?_eq_some_iff.1 hj
    rw [← hv]; exact (h j hlt).1
  simp only [Nat.zero_add]
  exact ⟨at' e0, at' e1, at' e2⟩
theorem owns_rowE {w : World} {B g n cap : Nat} {T : TypeId} {vs : List Value} (h : w.ownsRow B T 3 (.slice (some ⟨g, 0, none⟩) n cap) n vs) : RowIs g w vs := by
  have hc := h.cells (g := g) rfl
  obtain ⟨-, ⟨h1, -⟩ | ⟨g', cap', cur, h1, -, h3, -, -, -, -⟩⟩ := h
  · cases h1
  · cases h1
    intro i hi
    refine ⟨?_, ?_⟩
    · have := hc i vs[i] (List.getElem?_eq_getElem hi)
      rwa [addr_add, Nat.zero_add] at this
    · unfold World.frozen?
      simp only [h3]
      simp
/-- While the map is gone over. -/
def MrgRel (w1 : World) (m r : Nat) (D : DataW Unit) (M : List Ed) (left : Lit → Bool) (cnt : Nat) (G : List Ed) (v : Value) (wr : World) : Prop :=
  wr.ranges Tryz.prog 99 (plainElem (H := Unit) Tryz.prog 2) m r M.length D left cnt ∧ GrowE w1 G v wr ∧ Coll M left G
theorem MrgRel.size {w1 : World} {m r : Nat} {D : DataW Unit} {M : List Ed} {left : Lit → Bool} {cnt : Nat} {G : List Ed} {v : Value} {wr : World} (h : MrgRel w1 m r D M left cnt G v wr) : G.length ≤ M.length := by
  rw [List.Perm.length_eq h.2.2]; exact List.length_filter_le _ _
set_option maxRecDepth 100000 in
set_option maxHeartbeats 800000 in
theorem merge_any (a : Option Addr) (c : Nat) (l : List Ed) (hl : l.length ≤ 1048576) (hI : InL l) (w : World) (hR : ReadsE w.heap.size w a l) :
    Calls Tryz.prog 21 #[.slice a l.length c] w fun e w' => MergeOut (mergeE l) w e w' := by
  have HG := Lib.hid (gather_any a c l hl hI w hR)
  have HI := Lib.hid hI
  clear hR hI
  go_enter Tryz.func21, Tryz.ntmps21
  go_wp2_with fail
  refine HG.out.mono ?_
  rintro e w1 ⟨hb1, ⟨hn, rfl⟩ | ⟨M, m, D, hs, rfl, hm, hO, hD⟩⟩
  · have HX : Hid (mergeE l = none) := Lib.hid (by unfold mergeE; rw [hn]; rfl)
    have HB := Lib.hid hb1
    clear hn hb1
    go_wp2
    go_ret2
    exact ⟨HB.out, Or.inl ⟨HX.out, rfl⟩⟩
  obtain ⟨hgood, hMl⟩ := gath_good HI.out hs
  have hlen := fun ty => hO.len Tryz.underlying96 ty
  rw [hD.2.2.2] at hlen
  obtain ⟨cur, hcur, hmk⟩ := make_edges M.length (by omega) w1
  have hm1 := hO.lt
  have HX : Hid (mergeE l = some (nonz M)) := Lib.hid (by unfold mergeE; rw [hs]; rfl)
  have HG0 := Lib.hid (GrowE.made w1 w1 cur M.length (Below.refl _ _) (by omega) hcur)
  have HO2 : Hid (OwnsD (w1.alloc (.cells cur 51)) m M.length D) := Lib.hid (map_on hO ((Below.refl _ _).alloc (Nat.le_refl _) _))
  have HD := Lib.hid (And.intro hD (And.intro hgood hb1))
  have hM2 : M.length ≤ 1048576 := by omega
  clear hs hO hD hgood hb1 hcur
  have HO3 : Hid ((w1.alloc (.cells cur 51)).ownsMap Tryz.prog 99 (plainElem (H := Unit) Tryz.prog 2) m M.length D) := HO2
  have e1 : (w1.alloc (.cells cur 51)).heap.size = w1.heap.size + 1 := by simp
  go_wp2_with (first
    | (at_range; refine wpList_range_own _ rfl _ 96 rfl 99 2 lawP Tryz.underlying96 _ m M.length D rfl HO3.out ?_; intro w3 hrg hg hs3; rw [e1] at hrg; have HRG := Lib.hid (And.intro hrg hg); clear hrg hg hs3))
  go_frame
  rw [e1]
  clear e1 hlen hmk
  generalize hr : w1.heap.size + 1 = r at *
  have Hr := Lib.hid hr
  clear hr
  have HS : Hid (MrgRel w1 m r D M (Maps.has D) (Maps.size D) [] (.slice (some ⟨w1.heap.size, 0, none⟩) 0 M.length) w3) := Lib.hid
    ⟨HRG.out.1, HG0.out.on ⟨HRG.out.2.os, HRG.out.2.tape, HRG.out.2.output, HRG.out.2.size, fun j hj => HRG.out.2.block j hj (by simp)⟩, Coll.start HD.out.2.1 HD.out.1⟩
  clear HRG HO2 HO3 HG0
  go_loopw [6] (fun s wr => ∃ left cnt G v, v = s ∧ Hid (MrgRel w1 m r D M left cnt G v wr)) (fun _ wr => wr.rangeLeft m r)
  case atStart => exact ⟨_, _, [], _, rfl, HS⟩
  case round =>
    obtain ⟨left, cnt, G, v, rfl, HK⟩ := hrel
    clear HS
    go_wp2_with (first
      | (at_next; refine wpList_next_ranges _ rfl _ rfl 99 lawP (plainElem (H := Unit) Tryz.prog 2) encP (Value.int .i64) (fun key kl hk => by obtain ⟨x, y, hx, _⟩ := keyP_inv hk; exact ⟨(x, y), hx⟩) (fun v y hv => by obtain ⟨c, rfl, _⟩ := plainElem_int_inv Tryz.underlying2 hv; exact ⟨c, rfl⟩) m r M.length D left cnt rfl HK.out.1 ?_ ?_))
    · intro _ hl0
      have hp := HK.out.2.2.end hl0
      have hsz := HK.out.size
      have HU := Lib.hid (sortE_unique hp ((nonz_good HD.out.2.1).1.imp fun h => lt2_ltE h))
      have hown := HK.out.2.1.2
      have HB : Hid (Below w.heap.size w wr) := Lib.hid (HD.out.2.2.trans (HK.out.2.1.1.mono HD.out.2.2.size))
      have hbase : w.heap.size ≤ w1.heap.size := HD.out.2.2.size
      rcases hown.2 with ⟨rfl, h0⟩ | ⟨g, cap, cur2, rfl, hg, hhb, -⟩
      · have hG : G = [] := List.length_eq_zero_iff.1 h0
        subst hG
        have HE : Hid (nonz M = []) := Lib.hid (by rw [← HU.out]; simp [sortE])
        clear hown hp
        go_wp2_with (first | (go_at_call 51; refine (sort_none _ _ _).mono ?_; rintro e w5 ⟨rfl, rfl⟩))
        go_ret2
        exact ⟨HB.out, Or.inr ⟨[], none, 0, by rw [HX.out, HE.out], rfl, Or.inl rfl⟩⟩
      · have hrow := owns_rowE hown
        have hgl : g < wr.heap.size := (hown.lt g rfl).2
        have HS2 := Lib.hid (sortE_any g cap G (by omega) wr hgl hrow)
        rw [HU.out] at HS2
        have HL : Hid (G.length = (nonz M).length) := Lib.hid hp.length_eq
        clear hown hp hrow
        go_wp2_with (first | (go_at_call 51; refine HS2.out.mono ?_; rintro e w5 ⟨rfl, hb5, hr5, hz5⟩; have H5 := Lib.hid (And.intro hb5 (And.intro hr5 hz5)); clear hb5 hr5 hz5))
        go_ret2
        refine ⟨HB.out.trans (H5.out.1.mono (Nat.le_trans hbase hg)), Or.inr ⟨nonz M, some ⟨g, 0, none⟩, cap, HX.out, by rw [HL.out]; rfl, rows_edge H5.out.2.1⟩⟩
    · intro x1 x2 c2 kl yd yp w4 cnt2 hkey hlk hv hat hrg hlt hg hs4 hen
      obtain ⟨p, q, hpq, ip, iq, rfl⟩ := keyP_inv hkey
      obtain ⟨rfl, rfl⟩ : x1 = p ∧ x2 = q := by
        unfold encP at hpq
        simp only [Value.agg.injEq, Array.mk.injEq, List.cons.injEq, Value.int.injEq, true_and, and_true] at hpq
        exact hpq
      obtain ⟨c3, hc3, hy, -⟩ := plainElem_int_inv Tryz.underlying2 hv
      obtain rfl : c2 = c3 := by injection hc3
      have hyd : yd = dI c2 := congrArg Prod.fst hy
      have hwc : wOf M x1 x2 = c2 := by
        have h1 := (hat (dI 0)).symm.trans (HD.out.1.2.2.1 x1 x2 ip iq)
        simp only [hyd] at h1
        unfold dI at h1
        injection h1 with h1
        injection h1 with _ h1
        exact h1.symm
      have hhas : hasM M x1 x2 = true := by rw [← HD.out.1.2.1 x1 x2 ip iq]; exact has_true_of_atKey hat
      simp only [encP] at hen ⊢
      have hown4 := HK.out.2.1.2.kept hg (Or.inr (row_ne_iter HK.out.2.1.2 HK.out.1).symm)
      have hbel4 : Below w1.heap.size w1 w4 := HK.out.2.1.1.grown hg HK.out.2.1.1.size (fun j hj => by cases hj; have := Hr.out; omega)
      have hsz := HK.out.size
      by_cases h0 : c2 = 0
      · have t : (c2 != 0) = false := by simp [h0]
        have HN : Hid (MrgRel w1 m r D M (fun z => left z && !z.sameKey (kP x1 x2)) cnt2 G v w4) := Lib.hid ⟨hrg, ⟨hbel4, hown4⟩, HK.out.2.2.zero HD.out.2.1 ip iq (hwc.trans h0)⟩
        have HM : Hid (w4.rangeLeft m r < wr.rangeLeft m r) := Lib.hid (by rw [hrg.left_eq, HK.out.1.left_eq]; exact hlt)
        have HN2 : Hid (MrgRel w1 m r D M (fun z => left z && !z.sameKey (kP x1 x2)) cnt2 G v (w4.alloc (.cells #[.int .i64 x1, .int .i64 x2] 99))) := Lib.hid
          ⟨hrg.alloc _, HN.out.2.1.on ((Below.refl _ _).alloc (Nat.le_refl _) _), HN.out.2.2⟩
        have HM2 : Hid ((w4.alloc (.cells #[.int .i64 x1, .int .i64 x2] 99)).rangeLeft m r < wr.rangeLeft m r) := Lib.hid (by rw [HN2.out.1.left_eq, HK.out.1.left_eq]; exact hlt)
        clear hkey hat hrg hg hs4 hown4 hbel4 hwc hhas hy hyd hv hlt hlk HN HM h0
        go_wp2
        exact ⟨⟨_, cnt2, G, v, rfl, HN2⟩, HM2.out⟩
      · have t : (c2 != 0) = true := by simp [h0]
        obtain ⟨i0, hi, hz0, hz1, hz2⟩ := info_edge
        have hG5 : GrowE w1 G v (w4.alloc (.cells #[.int .i64 x1, .int .i64 x2] 99)) := GrowE.on ⟨hbel4, hown4⟩ ((Below.refl _ _).alloc (Nat.le_refl _) _)
        have hr5 := hrg.alloc (.cells #[.int .i64 x1, .int .i64 x2] 99)
        have hcl := HK.out.2.2.step HD.out.2.1 ip iq hhas hlk (by rw [hwc]; exact h0)
        rw [hwc] at hcl
        have H5 := Lib.hid (And.intro hG5 (And.intro hr5 (And.intro hcl (And.intro (row_ne_low hG5.2 hm1) (row_ne_iter hG5.2 hr5)))))
        have hbs : w1.heap.size ≤ w4.heap.size := hbel4.size
        have HC := Lib.hid HK.out.1.left_eq
        have HLt := Lib.hid hlt
        clear hkey hat hrg hg hs4 hown4 hbel4 hwc hhas hy hyd hv hlt hlk h0 hG5 hr5 hcl
        go_wp2_with (first
          | (at_builtin; refine wpList_append_own _ rfl _ _ 22 rfl w1.heap.size 51 i0 (.agg #[.int .i64 0, .int .i64 0, .int .i64 0]) 3 24 Tryz.underlying22 hi hz0 hz1 hz2 rfl (by decide) v G.length (flatE G) rfl (H5.out.1.2.alloc _) ⟨w4.heap.size + 1, 0, none⟩ 1 1 (cellE (x1, x2, c2)) rfl rfl (three_newsAt (by simp)) ones_edge (by unfold maxLen; omega) (by omega) (by simp; omega) ?_; intro v' w7 hown7 hg7 _; have HO := Lib.hid (And.intro hown7 hg7); clear hown7 hg7))
        have HN : Hid (MrgRel w1 m r D M (fun z => left z && !z.sameKey (kP x1 x2)) cnt2 (G ++ [(x1, x2, c2)]) v' w7) := Lib.hid
          ⟨(H5.out.2.1.alloc _).kept HO.out.2 H5.out.2.2.2.1 H5.out.2.2.2.2, H5.out.1.step (x1, x2, c2) HO.out.1 HO.out.2, H5.out.2.2.1⟩
        exact ⟨⟨_, cnt2, _, v', rfl, HN⟩, by rw [HN.out.1.left_eq, HC.out]; exact HLt.out⟩
end Go.Proofs.YtdbebebhldldmaaGreatDoor
/- Contract of New. -/
namespace Go.Proofs.YtdbebebhldldmaaGreatDoor
open Go.RowKit Go.ChangeShapes EdPure NtPure NumPure
def NewOut (n : Int) (l : List Ed) (w : World) (e : Ending) (w' : World) : Prop :=
  Below w.heap.size w w' ∧ (((errN n l).1 ≠ 0 ∧ e = .returned (.tuple #[.pointer none, .int .i64 (errN n l).1, .int .i64 (errN n l).2])) ∨
    (errN n l = (0, 0) ∧ ∃ (N : Nat) (M : List Ed) (g : Nat), n = N ∧ N ≤ 4096 ∧ GoodN N M ∧ M.length ≤ l.length ∧ l.length ≤ 1048576 ∧ mergeE l = some M ∧ e = .returned (.tuple #[.pointer (some ⟨g, 0, none⟩), .int .i64 0, .int .i64 0]) ∧ NetAt (some ⟨g, 0, none⟩) N M w'))
theorem ret_pii {p : Option Addr} {a b c d : Int} (h1 : a = b) (h2 : c = d) : Ending.returned (.tuple #[.pointer p, .int .i64 a, .int .i64 c]) = .returned (.tuple #[.pointer p, .int .i64 b, .int .i64 d]) := by rw [h1, h2]
set_option maxRecDepth 100000 in
set_option maxHeartbeats 1000000 in
theorem newNet_any (n : Int) (a : Option Addr) (c : Nat) (l : List Ed) (hI : InL l) (w : World) (hR : ReadsE w.heap.size w a l) :
    Calls Tryz.prog 7 #[.int .i64 n, .slice a l.length c] w fun e w' => NewOut n l w e w' := by
  have HR := Lib.hid hR
  have HI := Lib.hid hI
  clear hR hI
  by_cases h1 : n < 0
  · have HE : Hid (errN n l = (1, 0)) := Lib.hid (if_pos h1)
    go_enter Tryz.func7, Tryz.ntmps7
    go_wp2
    go_ret3
    exact ⟨Below.refl _ _, Or.inl ⟨by rw [HE.out]; decide, ret_pii (by rw [HE.out]) (by rw [HE.out])⟩⟩
  by_cases h2 : n > 4096
  · have HE : Hid (errN n l = (3, 0)) := Lib.hid (by unfold errN; rw [if_neg h1, if_pos (Or.inl h2)])
    go_enter Tryz.func7, Tryz.ntmps7
    go_wp2
    go_ret3
    exact ⟨Below.refl _ _, Or.inl ⟨by rw [HE.out]; decide, ret_pii (by rw [HE.out]) (by rw [HE.out])⟩⟩
  by_cases h3 : (l.length : Int) > 1048576
  · have HE : Hid (errN n l = (3, 0)) := Lib.hid (by unfold errN; rw [if_neg h1, if_pos (Or.inr (by omega))])
    go_enter Tryz.func7, Tryz.ntmps7
    go_wp2
    go_ret3
    exact ⟨Below.refl _ _, Or.inl ⟨by rw [HE.out]; decide, ret_pii (by rw [HE.out]) (by rw [HE.out])⟩⟩
  have HE : Hid (errN n l = chkL n l 0) := Lib.hid (by unfold errN; rw [if_neg h1, if_neg (by omega)])
  have HL : Hid (l.length ≤ 1048576) := Lib.hid (by omega)
  have HC := Lib.hid (checks_any n a c l HL.out w HR.out)
  obtain ⟨y, z, hyz⟩ : ∃ y z, chkL n l 0 = (y, z) := ⟨_, _, rfl⟩
  rw [hyz] at HC HE
  by_cases hy : y = 0
  · have hz := chkL_zero (n := n) (l := l) (by rw [hyz]; exact hy)
    rw [hyz] at hz
    simp only [Prod.mk.injEq] at hz
    obtain ⟨rfl, rfl⟩ := hz
    obtain ⟨M, hm, hg, hml⟩ := merged HI.out (chkL_good (by rw [hyz])) HL.out
    obtain ⟨N, rfl⟩ : ∃ N : Nat, n = N := ⟨n.toNat, by omega⟩
    have hN : N ≤ 4096 := by omega
    have HM := Lib.hid (And.intro hm (And.intro hg hml))
    clear hm hg hml hyz hy
    go_enter Tryz.func7, Tryz.ntmps7
    go_wp2_with fail
    refine HC.out.mono ?_
    rintro e w1 ⟨rfl, hb1⟩
    have HB1 := Lib.hid hb1
    have HR1 := Lib.hid (HR.out.over hb1 (Nat.le_refl _))
    clear hb1 HC HR
    go_wp2_with fail
    refine (merge_any a c l HL.out HI.out w1 HR1.out).mono ?_
    rintro e w2 ⟨hb2, ⟨hn, -⟩ | ⟨A, q, cap, hs, rfl, hr⟩⟩
    · rw [HM.out.1] at hn; cases hn
    obtain rfl : M = A := Option.some.inj (HM.out.1.symm.trans hs)
    have HB2 := Lib.hid (HB1.out.trans (hb2.mono HB1.out.size))
    have HR2 := Lib.hid hr
    have HML : Hid (M.length ≤ 1048576) := Lib.hid (Nat.le_trans HM.out.2.2 HL.out)
    clear hb2 hr hs HB1 HR1
    go_wp2_with fail
    refine (starsOf_any N hN q cap M HM.out.2.1 HML.out w2 HR2.out).mono ?_
    rintro e w3 ⟨hb3, b, rfl, hst⟩
    have hb4 : ∀ o, Below w3.heap.size w3 (w3.alloc o) := fun o => (Below.refl _ _).alloc (Nat.le_refl _) _
    have HB4 := Lib.hid (fun o => (HB2.out.trans (hb3.mono HB2.out.size)).trans ((hb4 o).mono (Nat.le_trans HB2.out.size hb3.size)))
    have HR4 := Lib.hid (fun o => (HR2.out.over hb3 (Nat.le_refl _)).over (hb4 o) (Nat.le_refl _))
    have HS4 := Lib.hid (fun o => hst.over (hb4 o) (Nat.le_refl _))
    clear hb3 hst hb4 HB2 HR2
    go_wp2
    go_ret3
    exact ⟨HB4.out _, Or.inr ⟨HE.out, N, M, w3.heap.size, rfl, hN, HM.out.2.1, HM.out.2.2, HL.out, HM.out.1, rfl, Or.inr ⟨w3.heap.size, some ⟨b, 0, none⟩, N, q, cap, rfl, by simp, by simp, by simp, HR4.out _, HS4.out _⟩⟩⟩
  · have HY := Lib.hid hy
    have t : (y != 0) = true := by simpa using hy
    clear hyz hy
    go_enter Tryz.func7, Tryz.ntmps7
    go_wp2_with (first | (go_at_call 20; refine HC.out.mono ?_; rintro e w1 ⟨rfl, hb1⟩; have HB1 := Lib.hid hb1; clear hb1))
    go_ret3
    exact ⟨HB1.out, Or.inl ⟨by rw [HE.out]; exact HY.out, ret_pii (by rw [HE.out]) (by rw [HE.out])⟩⟩
end Go.Proofs.YtdbebebhldldmaaGreatDoor
/- Contracts of the document's Add and Sum of layer 1 (cut out of XNumRef: a later stage's reference that adds takes this text). -/
namespace Go.Proofs.YtdbebebhldldmaaGreatDoor
open Go.RowKit Go.ChangeShapes NumPure
theorem refAdd_any (a b : Int) (ha : -9223372036854775808 ≤ a ∧ a ≤ 9223372036854775807) (hb : -9223372036854775808 ≤ b ∧ b ≤ 9223372036854775807) (w : World) :
    Calls Tryz.prog 90 #[.int .i64 a, .int .i64 b] w fun e w' => e = .returned (.agg #[.int .i64 (cut (a + b)), .bool (fitsB (a + b))]) ∧ Below w.heap.size w w' := by
  obtain ⟨ha1, ha2⟩ := ha
  obtain ⟨hb1, hb2⟩ := hb
  by_cases h : -9223372036854775808 ≤ a + b ∧ a + b ≤ 9223372036854775807
  · have e1 := Lib.hid (cut_in h)
    have e2 := Lib.hid ((fits_iff _).2 h)
    obtain ⟨h1, h2⟩ := h
    by_cases h0 : 0 ≤ b
    · go_enter Tryz.func90, Tryz.ntmps90
      go_wp2
      refine bodyPost_ret (v := .agg #[.int .i64 (a + b), .bool true]) (by simp [results, Tryz.results90, go_sem]) rfl ⟨agg_ib e1.out.symm e2.out.symm, (Below.refl _ _).alloc (Nat.le_refl _) _⟩
    · go_enter Tryz.func90, Tryz.ntmps90
      go_wp2
      refine bodyPost_ret (v := .agg #[.int .i64 (a + b), .bool true]) (by simp [results, Tryz.results90, go_sem]) rfl ⟨agg_ib e1.out.symm e2.out.symm, (Below.refl _ _).alloc (Nat.le_refl _) _⟩
  · have e1 := Lib.hid (cut_out h)
    have e2 := Lib.hid ((fits_not _).2 h)
    by_cases h0 : 0 ≤ b
    · have h3 := wrap_add_up a b ha2 h0 hb2 (by omega)
      clear h
      go_enter Tryz.func90, Tryz.ntmps90
      go_wp2
      refine bodyPost_ret (v := .agg #[.int .i64 0, .bool false]) (by simp [results, Tryz.results90, go_sem]) rfl ⟨agg_ib e1.out.symm e2.out.symm, (Below.refl _ _).alloc (Nat.le_refl _) _⟩
    · have h3 := wrap_add_down a b ha1 (by omega) hb1 (by omega)
      clear h
      go_enter Tryz.func90, Tryz.ntmps90
      go_wp2
      refine bodyPost_ret (v := .agg #[.int .i64 0, .bool false]) (by simp [results, Tryz.results90, go_sem]) rfl ⟨agg_ib e1.out.symm e2.out.symm, (Below.refl _ _).alloc (Nat.le_refl _) _⟩
/-- The document's sum, number by number. -/
def RefAt (M : Nat) (w : World) (p : Int × Bool) : Prop :=
  w.cell? ⟨M, 0, none⟩ = some (.int .i64 p.1) ∧ w.cell? ⟨M, 1, none⟩ = some (.bool p.2) ∧ w.frozen? ⟨M, 0, none⟩ = false ∧ w.frozen? ⟨M, 1, none⟩ = false
theorem RefAt.on {M : Nat} {w w' : World} {p : Int × Bool} (h : RefAt M w p) (hb : Below (M + 1) w w') : RefAt M w' p := by
  obtain ⟨h0, h1, f0, f1⟩ := h
  exact ⟨(hb.cell (by simp)).trans h0, (hb.cell (by simp)).trans h1, (hb.frozen (by simp)).trans f0, (hb.frozen (by simp)).trans f1⟩
theorem RefAt.set {N : Nat} {w : World} {p : Int × Bool} (h : RefAt N w p) (q : Int × Bool) : RefAt N ((w.setCell ⟨N, 0, none⟩ (.int .i64 q.1)).setCell ⟨N, 1, none⟩ (.bool q.2)) q := by
  obtain ⟨h0, h1, f0, f1⟩ := h
  have h1' : (w.setCell ⟨N, 0, none⟩ (.int .i64 q.1)).cell? ⟨N, 1, none⟩ = some (.bool p.2) := (World.cell?_setCell_other w ⟨N, 0, none⟩ ⟨N, 1, none⟩ _ (by simp)).trans h1
  refine ⟨(World.cell?_setCell_other _ ⟨N, 1, none⟩ ⟨N, 0, none⟩ _ (by simp)).trans (World.cell?_setCell_same _ _ _ h0), World.cell?_setCell_same _ _ _ h1', ?_, ?_⟩
  · simpa using f0
  · simpa using f1
theorem RefAt.lt {M : Nat} {w : World} {p : Int × Bool} (h : RefAt M w p) : M < w.heap.size := by
  exact World.block_lt_of_cell? w _ h.1
def RefRel (N : Nat) (w : World) (l : List Int) (k : Nat) (wr : World) : Prop := k ≤ l.length ∧ Below (N + 1) w wr ∧ RefAt (N + 1) wr (sumS (l.take k))
end Go.Proofs.YtdbebebhldldmaaGreatDoor
/- The document's Check, Normal, Cmp, Checks, Find, Total, Same. -/
namespace Go.Proofs.YtdbebebhldldmaaGreatDoor
open Go.RowKit Go.ChangeShapes EdPure NumPure
theorem refCheck_any (n : Int) (e : Ed) (w : World) :
    Calls Tryz.prog 45 #[.int .i64 n, encE e] w fun r w' => r = .returned (.int .i64 (chkE n e)) ∧ Below w.heap.size w w' := by
  obtain ⟨u, v, x⟩ := e
  unfold encE
  by_cases h1 : u < 0
  · have HE : Hid (chkE n (u, v, x) = 4) := Lib.hid (by unfold chkE; rw [if_neg (by simp only; omega)])
    go_enter Tryz.func45, Tryz.ntmps45
    go_wp2
    go_ret
    exact ⟨ret_i HE.out.symm, (Below.refl _ _).alloc (Nat.le_refl _) _⟩
  by_cases h2 : u < n
  · by_cases h3 : v < 0
    · have HE : Hid (chkE n (u, v, x) = 4) := Lib.hid (by unfold chkE; rw [if_neg (by simp only; omega)])
      go_enter Tryz.func45, Tryz.ntmps45
      go_wp2
      go_ret
      exact ⟨ret_i HE.out.symm, (Below.refl _ _).alloc (Nat.le_refl _) _⟩
    by_cases h4 : v < n
    · by_cases h5 : x < 0
      · have HE : Hid (chkE n (u, v, x) = 5) := Lib.hid (by unfold chkE; rw [if_pos (by simp only; omega), if_neg (by simp only; omega)])
        go_enter Tryz.func45, Tryz.ntmps45
        go_wp2
        go_ret
        exact ⟨ret_i HE.out.symm, (Below.refl _ _).alloc (Nat.le_refl _) _⟩
      by_cases h6 : x ≤ 2147483648
      · have HE : Hid (chkE n (u, v, x) = 0) := Lib.hid (by unfold chkE; rw [if_pos (by simp only; omega), if_pos (by simp only; omega)])
        go_enter Tryz.func45, Tryz.ntmps45
        go_wp2
        go_ret
        exact ⟨ret_i HE.out.symm, (Below.refl _ _).alloc (Nat.le_refl _) _⟩
      · have HE : Hid (chkE n (u, v, x) = 5) := Lib.hid (by unfold chkE; rw [if_pos (by simp only; omega), if_neg (by simp only; omega)])
        go_enter Tryz.func45, Tryz.ntmps45
        go_wp2
        go_ret
        exact ⟨ret_i HE.out.symm, (Below.refl _ _).alloc (Nat.le_refl _) _⟩
    · have HE : Hid (chkE n (u, v, x) = 4) := Lib.hid (by unfold chkE; rw [if_neg (by simp only; omega)])
      go_enter Tryz.func45, Tryz.ntmps45
      go_wp2
      go_ret
      exact ⟨ret_i HE.out.symm, (Below.refl _ _).alloc (Nat.le_refl _) _⟩
  · have HE : Hid (chkE n (u, v, x) = 4) := Lib.hid (by unfold chkE; rw [if_neg (by simp only; omega)])
    go_enter Tryz.func45, Tryz.ntmps45
    go_wp2
    go_ret
    exact ⟨ret_i HE.out.symm, (Below.refl _ _).alloc (Nat.le_refl _) _⟩
theorem refNormal_any (e : Ed) (w : World) :
    Calls Tryz.prog 66 #[encE e] w fun r w' => r = .returned (encE (normE e)) ∧ Below w.heap.size w w' := by
  obtain ⟨u, v, x⟩ := e
  unfold encE
  by_cases h : v < u
  · have HE : Hid ((v, u, x) = normE (u, v, x)) := Lib.hid (by unfold normE; rw [if_pos h])
    go_enter Tryz.func66, Tryz.ntmps66
    go_wp2
    refine bodyPost_ret (v := .agg #[.int .i64 v, .int .i64 u, .int .i64 x]) (by simp [results, Tryz.results66, go_sem]) rfl ⟨agg_e HE.out, ?_⟩
    exact below_two
  · have HE : Hid ((u, v, x) = normE (u, v, x)) := Lib.hid (by unfold normE; rw [if_neg h])
    go_enter Tryz.func66, Tryz.ntmps66
    go_wp2
    refine bodyPost_ret (v := .agg #[.int .i64 u, .int .i64 v, .int .i64 x]) (by simp [results, Tryz.results66, go_sem]) rfl ⟨agg_e HE.out, ?_⟩
    exact below_two
theorem agg_iiE {a b c d : Int} (h1 : a = b) (h2 : c = d) : Ending.returned (.agg #[.int .i64 a, .int .i64 c]) = .returned (.agg #[.int .i64 b, .int .i64 d]) := by rw [h1, h2]
theorem refChecks_any (n : Int) (a : Option Addr) (c : Nat) (l : List Ed) (hl : l.length ≤ 1048576) (w : World) (hR : ReadsE w.heap.size w a l) :
    Calls Tryz.prog 33 #[.int .i64 n, .slice a l.length c] w fun e w' => e = .returned (.agg #[.int .i64 (chkL n l 0).1, .int .i64 (chkL n l 0).2]) ∧ Below w.heap.size w w' := by
  have HR := Lib.hid hR
  have H2 : Hid (TwoAt w.heap.size (w.alloc (.cells #[.int .i64 0, .int .i64 0] 76)) (.int .i64 0) (.int .i64 0)) := Lib.hid (TwoAt.new _ _ _ _)
  have HB0 : Hid (Below w.heap.size w (w.alloc (.cells #[.int .i64 0, .int .i64 0] 76))) := Lib.hid ((Below.refl _ _).alloc (Nat.le_refl _) _)
  clear hR
  go_enter Tryz.func33, Tryz.ntmps33
  go_wp2
  generalize w.alloc (.cells #[.int .i64 0, .int .i64 0] 76) = w0 at *
  go_loopw [5] (fun i wr => ∃ k : Nat, i = .int .i64 k ∧ Hid (ChkRel n w l k wr ∧ TwoAt w.heap.size wr (.int .i64 0) (.int .i64 0))) (fun i _ => l.length - (intOf i).toNat)
  case atStart => exact ⟨0, rfl, Lib.hid ⟨⟨Nat.zero_le _, HB0.out, fun j _ h => by omega⟩, H2.out⟩⟩
  case round =>
    obtain ⟨k, rfl, HK⟩ := hrel
    clear H2 HB0
    have i0 : (0 : Int) ≤ (k : Int) := by omega
    by_cases hlt : k < l.length
    · have i1 : (k : Int) < (l.length : Int) := by omega
      obtain ⟨u, v, x, he⟩ : ∃ u v x, l[k] = (u, v, x) := ⟨_, _, _, rfl⟩
      obtain ⟨b, off, rfl, hbw, hbr, c0, c1, c2⟩ := HR.out.cells hlt HK.out.1.2.1 he
      have HC := Lib.hid (refCheck_any n (u, v, x) wr)
      unfold encE at HC
      have HE := Lib.hid he
      clear he
      by_cases h0 : chkE n (u, v, x) = 0
      · have H0 := Lib.hid h0
        rw [h0] at HC
        clear h0
        go_wp2_with (first | (go_at_call 45; refine HC.out.mono ?_; rintro e w1 ⟨rfl, hb⟩; have H1 := Lib.hid hb; clear hb))
        go_roundw
        case rel => exact ⟨k + 1, by go_num, Lib.hid ⟨HK.out.1.next hlt (by rw [HE.out]; exact H0.out) (HK.out.1.2.1.trans (H1.out.mono HK.out.1.2.1.size)), HK.out.2.on H1.out HK.out.2.lt⟩⟩
        case measure => (simp [intOf]; omega)
      · have HX : Hid (chkL n l 0 = (chkE n (u, v, x), (k : Int))) := Lib.hid (by
          rw [chk_hit n l 0 k hlt (by rw [HE.out]; exact h0) HK.out.1.2.2, HE.out, Nat.zero_add])
        have t : (chkE n (u, v, x) != 0) = true := by simpa using h0
        clear h0
        generalize chkE n (u, v, x) = r at *
        go_wp2_with fail
        refine HC.out.mono ?_
        rintro e w1 ⟨rfl, hb⟩
        have hA := (HK.out.2.on hb HK.out.2.lt)
        obtain ⟨d0, d1, g0, g1⟩ := hA
        have H1 := Lib.hid hb
        clear hb
        go_wp2
        refine bodyPost_ret (v := .agg #[.int .i64 r, .int .i64 k]) (by simp [results, Tryz.results33, go_sem, d0, d1]) rfl ⟨agg_iiE (by rw [HX.out]) (by rw [HX.out]), ?_⟩
        exact ((HK.out.1.2.1.trans (H1.out.mono HK.out.1.2.1.size)).setCell (Nat.le_refl _) _).setCell (Nat.le_refl _) _
    · have hk : k = l.length := by have := HK.out.1.1; omega
      subst hk
      have HX : Hid (chkL n l 0 = (0, 0)) := Lib.hid (chk_miss n l 0 fun j hj => HK.out.1.2.2 j hj hj)
      obtain ⟨d0, d1, g0, g1⟩ := HK.out.2
      go_wp2
      refine bodyPost_ret (v := .agg #[.int .i64 0, .int .i64 0]) (by simp [results, Tryz.results33, go_sem, d0, d1]) rfl ⟨agg_iiE (by rw [HX.out]) (by rw [HX.out]), ?_⟩
      exact (HK.out.1.2.1.setCell (Nat.le_refl _) _).setCell (Nat.le_refl _) _
end Go.Proofs.YtdbebebhldldmaaGreatDoor
/- The document's Total, Same, Cmp. -/
namespace Go.Proofs.YtdbebebhldldmaaGreatDoor
open Go.RowKit Go.ChangeShapes EdPure NumPure
theorem reads_of {w : World} {a : Option Addr} {l : List Int} (h : ReadsL (encInt .i64) w.heap.size w a l) : Reads w.heap.size w a l := by
  rcases h with h | ⟨b, off, h1, h2, h3⟩
  · exact Or.inl h
  · refine Or.inr ⟨b, off, h1, h2, fun i hi => ?_⟩
    rw [h3 i hi]
    unfold encInt
    simp [List.getD_eq_getElem?_getD, List.getElem?_eq_getElem hi]
theorem wts_rng {l : List Ed} (h : InL l) : Rng (wts l) := by
  intro i hi
  rw [wts_len] at hi
  rw [wts_at hi]
  exact (h.at hi).2.2
theorem wts_take {l : List Ed} {k : Nat} (hk : k < l.length) : wts (l.take (k + 1)) = wts (l.take k) ++ [l[k].2.2] := by
  rw [List.take_succ_eq_append_getElem hk]; unfold wts; rw [List.map_append]; rfl
theorem info_int64 : ∃ i, (Tryz.prog.info? 2) = some i ∧ i.zero = some (.int .i64 0) ∧ i.size = 1 ∧ i.bytes = 8 := info_of (by kernel_rfl)
def RTotRel (w0 : World) (l : List Ed) (k : Nat) (v : Value) (wr : World) : Prop := k ≤ l.length ∧ GrowRel (encInt .i64) 2 w0 (wts (l.take k)) v wr
@[go_sem] theorem eq_edge (a b c a' b' c' : Int) (w : World) : (Op.equalIn 10000 51 (.agg #[.int .i64 a, .int .i64 b, .int .i64 c]) (.agg #[.int .i64 a', .int .i64 b', .int .i64 c'])).run Tryz.prog w = .ok (a == a' && (b == b' && c == c')) w := by
  have u3 := Tryz.underlying3
  have a3 := Tryz.isAgg3
  have z3 := Tryz.sizeOf3
  have u2 := Tryz.underlying2
  have a2 := Tryz.isAgg2
  have z2 := Tryz.sizeOf2
  have hS : Tryz.prog.underlying 51 = some (.struct (Tryz.prog.fieldsOf 51)) := by kernel_rfl
  have hp : Tryz.prog.stoodInHeld 51 = false := by kernel_rfl
  rw [show (10000 : Nat) = 9999 + 1 from rfl, run_equalIn_agg w 9999 51 _ _ hS hp]
  simp only [Program.fieldsOf, Tryz.underlying51]
  go_simp
  by_cases h1 : a = a' <;> by_cases h2 : b = b' <;> by_cases h3 : c = c' <;> simp [h1, h2, h3]
def SameRel (w : World) (l m : List Ed) (k : Nat) (wr : World) : Prop := k ≤ l.length ∧ Below w.heap.size w wr ∧ ∀ j (h1 : j < l.length) (h2 : j < m.length), j < k → l[j] = m[j]
end Go.Proofs.YtdbebebhldldmaaGreatDoor
