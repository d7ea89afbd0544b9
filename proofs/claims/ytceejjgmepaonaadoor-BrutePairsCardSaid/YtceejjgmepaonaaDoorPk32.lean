/- Texts that the laws of this seat stand on, part 32. -/
import Derived.Test.YtceejjgmepaonaaDoorPk31
import Derived.Sort.OwnSorted
import Derived.Test.YtceejjgmepaonaaDoorPk19
import Derived.Test.YtceejjgmepaonaaDoorPk30
import Derived.Deep.Cut
import Derived.Test.YtceejjgmepaonaaDoorPk18
import Derived.Deep.RegionWith
/- Contract of Merge. -/
namespace Go.Proofs.YtceejjgmepaonaaDoor
open Go.RowKit Go.ChangeShapes Go.Maps EdPure NumPure
/-- What Merge answers. -/
def MergeOut (r : Option (List Ed)) (w : World) (e : Ending) (w' : World) : Prop :=
  Below w.heap.size w w' ∧ ((r = none ∧ e = .returned (.tuple #[.slice none 0 0, .bool false])) ∨
    ∃ A q cap, r = some A ∧ e = .returned (.tuple #[.slice q A.length cap, .bool true]) ∧ ReadsE w'.heap.size w' q A)
theorem rows_edge {g : Nat} {w : World} {l : List Ed} (h : RowIs g w (flatE l)) : ReadsE w.heap.size w (some ⟨g, 0, none⟩) l := by
  by_cases h0 : l = []
  · exact Or.inl h0
  have hl : 0 < l.length := List.length_pos_iff.2 h0
  refine Or.inr ⟨g, 0, rfl, h.lt (by rw [flatE_len]; omega), fun i hi => ?_⟩
  obtain ⟨e0, e1, e2⟩ := flatE_at hi
  have at' : ∀ {j : Nat} {v : Value}, (flatE l)[j]? = some v → w.cell? ⟨g, j, none⟩ = some v := fun {j v} hj => by
    obtain ⟨hlt, hv⟩ := List.getElem?_eq_some_iff.1 hj
    rw [← hv]; exact (h j hlt).1
  simp only [Nat.zero_add]
  exact ⟨at' e0, at' e1, at' e2⟩
theorem owns_rowE {w : World} {B g n cap : Nat} {T : TypeId} {vs : List Value} (h : w.ownsRow B T 3 (.slice (some ⟨g, 0, none⟩) n cap) n vs) : RowIs g w vs := by
  have hc := h.cells (g := g) rfl
  obtain ⟨-, ⟨h1, -⟩ | ⟨g', cap', cur, h1, -, h3, -, -, -, -⟩⟩ := h
  · cases h1
  · cases h1
    intro i hi
    refine ⟨?_, ?_⟩
    · have := hc i vs[i] (List.getElem?_eq_getElem hi)
      rwa [addr_add, Nat.zero_add] at this
    · unfold World.frozen?
      simp only [h3]
      simp
/-- While the map is gone over. -/
def MrgRel (w1 : World) (m r : Nat) (D : DataW Unit) (M : List Ed) (left : Lit → Bool) (cnt : Nat) (G : List Ed) (v : Value) (wr : World) : Prop :=
  wr.ranges Tryd.prog 23 (plainElem (H := Unit) Tryd.prog 2) m r M.length D left cnt ∧ GrowE w1 G v wr ∧ Coll M left G
theorem MrgRel.size {w1 : World} {m r : Nat} {D : DataW Unit} {M : List Ed} {left : Lit → Bool} {cnt : Nat} {G : List Ed} {v : Value} {wr : World} (h : MrgRel w1 m r D M left cnt G v wr) : G.length ≤ M.length := by
  rw [List.Perm.length_eq h.2.2]; exact List.length_filter_le _ _
set_option maxRecDepth 100000 in
set_option maxHeartbeats 800000 in
theorem merge_any (a : Option Addr) (c : Nat) (l : List Ed) (hl : l.length ≤ 1048576) (hI : InL l) (w : World) (hR : ReadsE w.heap.size w a l) :
    Calls Tryd.prog 20 #[.slice a l.length c] w fun e w' => MergeOut (mergeE l) w e w' := by
  have HG := Lib.hid (gather_any a c l hl hI w hR)
  have HI := Lib.hid hI
  clear hR hI
  go_enter Tryd.func20, Tryd.ntmps20
  go_wp2_with fail
  refine HG.out.mono ?_
  rintro e w1 ⟨hb1, ⟨hn, rfl⟩ | ⟨M, m, D, hs, rfl, hm, hO, hD⟩⟩
  · have HX : Hid (mergeE l = none) := Lib.hid (by unfold mergeE; rw [hn]; rfl)
    have HB := Lib.hid hb1
    clear hn hb1
    go_wp2
    go_ret2
    exact ⟨HB.out, Or.inl ⟨HX.out, rfl⟩⟩
  obtain ⟨hgood, hMl⟩ := gath_good HI.out hs
  have hlen := fun ty => hO.len Tryd.underlying101 ty
  rw [hD.2.2.2] at hlen
  obtain ⟨cur, hcur, hmk⟩ := make_edges M.length (by omega) w1
  have hm1 := hO.lt
  have HX : Hid (mergeE l = some (nonz M)) := Lib.hid (by unfold mergeE; rw [hs]; rfl)
  have HG0 := Lib.hid (GrowE.made w1 w1 cur M.length (Below.refl _ _) (by omega) hcur)
  have HO2 : Hid (OwnsD (w1.alloc (.cells cur 54)) m M.length D) := Lib.hid (map_on hO ((Below.refl _ _).alloc (Nat.le_refl _) _))
  have HD := Lib.hid (And.intro hD (And.intro hgood hb1))
  have hM2 : M.length ≤ 1048576 := by omega
  clear hs hO hD hgood hb1 hcur
  have HO3 : Hid ((w1.alloc (.cells cur 54)).ownsMap Tryd.prog 23 (plainElem (H := Unit) Tryd.prog 2) m M.length D) := HO2
  have e1 : (w1.alloc (.cells cur 54)).heap.size = w1.heap.size + 1 := by simp
  go_wp2_with (first
    | (at_range; refine wpList_range_own _ rfl _ 101 rfl 23 2 lawP Tryd.underlying101 _ m M.length D rfl HO3.out ?_; intro w3 hrg hg hs3; rw [e1] at hrg; have HRG := Lib.hid (And.intro hrg hg); clear hrg hg hs3))
  go_frame
  rw [e1]
  clear e1 hlen hmk
  generalize hr : w1.heap.size + 1 = r at *
  have Hr := Lib.hid hr
  clear hr
  have HS : Hid (MrgRel w1 m r D M (Maps.has D) (Maps.size D) [] (.slice (some ⟨w1.heap.size, 0, none⟩) 0 M.length) w3) := Lib.hid
    ⟨HRG.out.1, HG0.out.on ⟨HRG.out.2.os, HRG.out.2.tape, HRG.out.2.output, HRG.out.2.size, fun j hj => HRG.out.2.block j hj (by simp)⟩, Coll.start HD.out.2.1 HD.out.1⟩
  clear HRG HO2 HO3 HG0
  go_loopw [6] (fun s wr => ∃ left cnt G v, v = s ∧ Hid (MrgRel w1 m r D M left cnt G v wr)) (fun _ wr => wr.rangeLeft m r)
  case atStart => exact ⟨_, _, [], _, rfl, HS⟩
  case round =>
    obtain ⟨left, cnt, G, v, rfl, HK⟩ := hrel
    clear HS
    go_wp2_with (first
      | (at_next; refine wpList_next_ranges _ rfl _ rfl 23 lawP (plainElem (H := Unit) Tryd.prog 2) encP (Value.int .i64) (fun key kl hk => by obtain ⟨x, y, hx, _⟩ := keyP_inv hk; exact ⟨(x, y), hx⟩) (fun v y hv => by obtain ⟨c, rfl, _⟩ := plainElem_int_inv Tryd.underlying2 hv; exact ⟨c, rfl⟩) m r M.length D left cnt rfl HK.out.1 ?_ ?_))
    · intro _ hl0
      have hp := HK.out.2.2.end hl0
      have hsz := HK.out.size
      have HU := Lib.hid (sortE_unique hp ((nonz_good HD.out.2.1).1.imp fun h => lt2_ltE h))
      have hown := HK.out.2.1.2
      have HB : Hid (Below w.heap.size w wr) := Lib.hid (HD.out.2.2.trans (HK.out.2.1.1.mono HD.out.2.2.size))
      have hbase : w.heap.size ≤ w1.heap.size := HD.out.2.2.size
      rcases hown.2 with ⟨rfl, h0⟩ | ⟨g, cap, cur2, rfl, hg, hhb, -⟩
      · have hG : G = [] := List.length_eq_zero_iff.1 h0
        subst hG
        have HE : Hid (nonz M = []) := Lib.hid (by rw [← HU.out]; simp [sortE])
        clear hown hp
        go_wp2_with (first | (go_at_call 47; refine (sort_none _ _ _).mono ?_; rintro e w5 ⟨rfl, rfl⟩))
        go_ret2
        exact ⟨HB.out, Or.inr ⟨[], none, 0, by rw [HX.out, HE.out], rfl, Or.inl rfl⟩⟩
      · have hrow := owns_rowE hown
        have hgl : g < wr.heap.size := (hown.lt g rfl).2
        have HS2 := Lib.hid (sortE_any g cap G (by omega) wr hgl hrow)
        rw [HU.out] at HS2
        have HL : Hid (G.length = (nonz M).length) := Lib.hid hp.length_eq
        clear hown hp hrow
        go_wp2_with (first | (go_at_call 47; refine HS2.out.mono ?_; rintro e w5 ⟨rfl, hb5, hr5, hz5⟩; have H5 := Lib.hid (And.intro hb5 (And.intro hr5 hz5)); clear hb5 hr5 hz5))
        go_ret2
        refine ⟨HB.out.trans (H5.out.1.mono (Nat.le_trans hbase hg)), Or.inr ⟨nonz M, some ⟨g, 0, none⟩, cap, HX.out, by rw [HL.out]; rfl, rows_edge H5.out.2.1⟩⟩
    · intro x1 x2 c2 kl yd yp w4 cnt2 hkey hlk hv hat hrg hlt hg hs4 hen
      obtain ⟨p, q, hpq, ip, iq, rfl⟩ := keyP_inv hkey
      obtain ⟨rfl, rfl⟩ : x1 = p ∧ x2 = q := by
        unfold encP at hpq
        simp only [Value.agg.injEq, Array.mk.injEq, List.cons.injEq, Value.int.injEq, true_and, and_true] at hpq
        exact hpq
      obtain ⟨c3, hc3, hy, -⟩ := plainElem_int_inv Tryd.underlying2 hv
      obtain rfl : c2 = c3 := by injection hc3
      have hyd : yd = dI c2 := congrArg Prod.fst hy
      have hwc : wOf M x1 x2 = c2 := by
        have h1 := (hat (dI 0)).symm.trans (HD.out.1.2.2.1 x1 x2 ip iq)
        simp only [hyd] at h1
        unfold dI at h1
        injection h1 with h1
        injection h1 with _ h1
        exact h1.symm
      have hhas : hasM M x1 x2 = true := by rw [← HD.out.1.2.1 x1 x2 ip iq]; exact has_true_of_atKey hat
      simp only [encP] at hen ⊢
      have hown4 := HK.out.2.1.2.kept hg (Or.inr (row_ne_iter HK.out.2.1.2 HK.out.1).symm)
      have hbel4 : Below w1.heap.size w1 w4 := HK.out.2.1.1.grown hg HK.out.2.1.1.size (fun j hj => by cases hj; have := Hr.out; omega)
      have hsz := HK.out.size
      by_cases h0 : c2 = 0
      · have t : (c2 != 0) = false := by simp [h0]
        have HN : Hid (MrgRel w1 m r D M (fun z => left z && !z.sameKey (kP x1 x2)) cnt2 G v w4) := Lib.hid ⟨hrg, ⟨hbel4, hown4⟩, HK.out.2.2.zero HD.out.2.1 ip iq (hwc.trans h0)⟩
        have HM : Hid (w4.rangeLeft m r < wr.rangeLeft m r) := Lib.hid (by rw [hrg.left_eq, HK.out.1.left_eq]; exact hlt)
        have HN2 : Hid (MrgRel w1 m r D M (fun z => left z && !z.sameKey (kP x1 x2)) cnt2 G v (w4.alloc (.cells #[.int .i64 x1, .int .i64 x2] 23))) := Lib.hid
          ⟨hrg.alloc _, HN.out.2.1.on ((Below.refl _ _).alloc (Nat.le_refl _) _), HN.out.2.2⟩
        have HM2 : Hid ((w4.alloc (.cells #[.int .i64 x1, .int .i64 x2] 23)).rangeLeft m r < wr.rangeLeft m r) := Lib.hid (by rw [HN2.out.1.left_eq, HK.out.1.left_eq]; exact hlt)
        clear hkey hat hrg hg hs4 hown4 hbel4 hwc hhas hy hyd hv hlt hlk HN HM h0
        go_wp2
        exact ⟨⟨_, cnt2, G, v, rfl, HN2⟩, HM2.out⟩
      · have t : (c2 != 0) = true := by simp [h0]
        obtain ⟨i0, hi, hz0, hz1, hz2⟩ := info_edge
        have hG5 : GrowE w1 G v (w4.alloc (.cells #[.int .i64 x1, .int .i64 x2] 23)) := GrowE.on ⟨hbel4, hown4⟩ ((Below.refl _ _).alloc (Nat.le_refl _) _)
        have hr5 := hrg.alloc (.cells #[.int .i64 x1, .int .i64 x2] 23)
        have hcl := HK.out.2.2.step HD.out.2.1 ip iq hhas hlk (by rw [hwc]; exact h0)
        rw [hwc] at hcl
        have H5 := Lib.hid (And.intro hG5 (And.intro hr5 (And.intro hcl (And.intro (row_ne_low hG5.2 hm1) (row_ne_iter hG5.2 hr5)))))
        have hbs : w1.heap.size ≤ w4.heap.size := hbel4.size
        have HC := Lib.hid HK.out.1.left_eq
        have HLt := Lib.hid hlt
        clear hkey hat hrg hg hs4 hown4 hbel4 hwc hhas hy hyd hv hlt hlk h0 hG5 hr5 hcl
        go_wp2_with (first
          | (at_builtin; refine wpList_append_own _ rfl _ _ 22 rfl w1.heap.size 54 i0 (.agg #[.int .i64 0, .int .i64 0, .int .i64 0]) 3 24 Tryd.underlying22 hi hz0 hz1 hz2 rfl (by decide) v G.length (flatE G) rfl (H5.out.1.2.alloc _) ⟨w4.heap.size + 1, 0, none⟩ 1 1 (cellE (x1, x2, c2)) rfl rfl (three_newsAt (by simp)) ones_edge (by unfold maxLen; omega) (by omega) (by simp; omega) ?_; intro v' w7 hown7 hg7 _; have HO := Lib.hid (And.intro hown7 hg7); clear hown7 hg7))
        have HN : Hid (MrgRel w1 m r D M (fun z => left z && !z.sameKey (kP x1 x2)) cnt2 (G ++ [(x1, x2, c2)]) v' w7) := Lib.hid
          ⟨(H5.out.2.1.alloc _).kept HO.out.2 H5.out.2.2.2.1 H5.out.2.2.2.2, H5.out.1.step (x1, x2, c2) HO.out.1 HO.out.2, H5.out.2.2.1⟩
        exact ⟨⟨_, cnt2, _, v', rfl, HN⟩, by rw [HN.out.1.left_eq, HC.out]; exact HLt.out⟩
end Go.Proofs.YtceejjgmepaonaaDoor
/- Contract of New. -/
namespace Go.Proofs.YtceejjgmepaonaaDoor
open Go.RowKit Go.ChangeShapes EdPure NtPure NumPure
def NewOut (n : Int) (l : List Ed) (w : World) (e : Ending) (w' : World) : Prop :=
  Below w.heap.size w w' ∧ (((errN n l).1 ≠ 0 ∧ e = .returned (.tuple #[.pointer none, .int .i64 (errN n l).1, .int .i64 (errN n l).2])) ∨
    (errN n l = (0, 0) ∧ ∃ (N : Nat) (M : List Ed) (g : Nat), n = N ∧ N ≤ 4096 ∧ GoodN N M ∧ M.length ≤ l.length ∧ l.length ≤ 1048576 ∧ mergeE l = some M ∧ e = .returned (.tuple #[.pointer (some ⟨g, 0, none⟩), .int .i64 0, .int .i64 0]) ∧ NetAt (some ⟨g, 0, none⟩) N M w'))
theorem ret_pii {p : Option Addr} {a b c d : Int} (h1 : a = b) (h2 : c = d) : Ending.returned (.tuple #[.pointer p, .int .i64 a, .int .i64 c]) = .returned (.tuple #[.pointer p, .int .i64 b, .int .i64 d]) := by rw [h1, h2]
set_option maxRecDepth 100000 in
set_option maxHeartbeats 1000000 in
theorem newNet_any (n : Int) (a : Option Addr) (c : Nat) (l : List Ed) (hI : InL l) (w : World) (hR : ReadsE w.heap.size w a l) :
    Calls Tryd.prog 6 #[.int .i64 n, .slice a l.length c] w fun e w' => NewOut n l w e w' := by
  have HR := Lib.hid hR
  have HI := Lib.hid hI
  clear hR hI
  by_cases h1 : n < 0
  · have HE : Hid (errN n l = (1, 0)) := Lib.hid (if_pos h1)
    go_enter Tryd.func6, Tryd.ntmps6
    go_wp2
    go_ret3
    exact ⟨Below.refl _ _, Or.inl ⟨by rw [HE.out]; decide, ret_pii (by rw [HE.out]) (by rw [HE.out])⟩⟩
  by_cases h2 : n > 4096
  · have HE : Hid (errN n l = (3, 0)) := Lib.hid (by unfold errN; rw [if_neg h1, if_pos (Or.inl h2)])
    go_enter Tryd.func6, Tryd.ntmps6
    go_wp2
    go_ret3
    exact ⟨Below.refl _ _, Or.inl ⟨by rw [HE.out]; decide, ret_pii (by rw [HE.out]) (by rw [HE.out])⟩⟩
  by_cases h3 : (l.length : Int) > 1048576
  · have HE : Hid (errN n l = (3, 0)) := Lib.hid (by unfold errN; rw [if_neg h1, if_pos (Or.inr (by omega))])
    go_enter Tryd.func6, Tryd.ntmps6
    go_wp2
    go_ret3
    exact ⟨Below.refl _ _, Or.inl ⟨by rw [HE.out]; decide, ret_pii (by rw [HE.out]) (by rw [HE.out])⟩⟩
  have HE : Hid (errN n l = chkL n l 0) := Lib.hid (by unfold errN; rw [if_neg h1, if_neg (by omega)])
  have HL : Hid (l.length ≤ 1048576) := Lib.hid (by omega)
  have HC := Lib.hid (checks_any n a c l HL.out w HR.out)
  obtain ⟨y, z, hyz⟩ : ∃ y z, chkL n l 0 = (y, z) := ⟨_, _, rfl⟩
  rw [hyz] at HC HE
  by_cases hy : y = 0
  · have hz := chkL_zero (n := n) (l := l) (by rw [hyz]; exact hy)
    rw [hyz] at hz
    simp only [Prod.mk.injEq] at hz
    obtain ⟨rfl, rfl⟩ := hz
    obtain ⟨M, hm, hg, hml⟩ := merged HI.out (chkL_good (by rw [hyz])) HL.out
    obtain ⟨N, rfl⟩ : ∃ N : Nat, n = N := ⟨n.toNat, by omega⟩
    have hN : N ≤ 4096 := by omega
    have HM := Lib.hid (And.intro hm (And.intro hg hml))
    clear hm hg hml hyz hy
    go_enter Tryd.func6, Tryd.ntmps6
    go_wp2_with fail
    refine HC.out.mono ?_
    rintro e w1 ⟨rfl, hb1⟩
    have HB1 := Lib.hid hb1
    have HR1 := Lib.hid (HR.out.over hb1 (Nat.le_refl _))
    clear hb1 HC HR
    go_wp2_with fail
    refine (merge_any a c l HL.out HI.out w1 HR1.out).mono ?_
    rintro e w2 ⟨hb2, ⟨hn, -⟩ | ⟨A, q, cap, hs, rfl, hr⟩⟩
    · rw [HM.out.1] at hn; cases hn
    obtain rfl : M = A := Option.some.inj (HM.out.1.symm.trans hs)
    have HB2 := Lib.hid (HB1.out.trans (hb2.mono HB1.out.size))
    have HR2 := Lib.hid hr
    have HML : Hid (M.length ≤ 1048576) := Lib.hid (Nat.le_trans HM.out.2.2 HL.out)
    clear hb2 hr hs HB1 HR1
    go_wp2_with fail
    refine (starsOf_any N hN q cap M HM.out.2.1 HML.out w2 HR2.out).mono ?_
    rintro e w3 ⟨hb3, b, rfl, hst⟩
    have hb4 : ∀ o, Below w3.heap.size w3 (w3.alloc o) := fun o => (Below.refl _ _).alloc (Nat.le_refl _) _
    have HB4 := Lib.hid (fun o => (HB2.out.trans (hb3.mono HB2.out.size)).trans ((hb4 o).mono (Nat.le_trans HB2.out.size hb3.size)))
    have HR4 := Lib.hid (fun o => (HR2.out.over hb3 (Nat.le_refl _)).over (hb4 o) (Nat.le_refl _))
    have HS4 := Lib.hid (fun o => hst.over (hb4 o) (Nat.le_refl _))
    clear hb3 hst hb4 HB2 HR2
    go_wp2
    go_ret3
    exact ⟨HB4.out _, Or.inr ⟨HE.out, N, M, w3.heap.size, rfl, hN, HM.out.2.1, HM.out.2.2, HL.out, HM.out.1, rfl, Or.inr ⟨w3.heap.size, some ⟨b, 0, none⟩, N, q, cap, rfl, by simp, by simp, by simp, HR4.out _, HS4.out _⟩⟩⟩
  · have HY := Lib.hid hy
    have t : (y != 0) = true := by simpa using hy
    clear hyz hy
    go_enter Tryd.func6, Tryd.ntmps6
    go_wp2_with (first | (go_at_call 19; refine HC.out.mono ?_; rintro e w1 ⟨rfl, hb1⟩; have HB1 := Lib.hid hb1; clear hb1))
    go_ret3
    exact ⟨HB1.out, Or.inl ⟨by rw [HE.out]; exact HY.out, ret_pii (by rw [HE.out]) (by rw [HE.out])⟩⟩
end Go.Proofs.YtceejjgmepaonaaDoor
/- The law's awake (layer 22). -/
namespace Go.Proofs.YtceejjgmepaonaaDoor.Br
open Go.RowKit Go.ChangeShapes EdPure NtPure CutPure SdPure BrPure Cm Sd Bg
abbrev awL : List Ed := [(0, 1, 1), (1, 2, 1), (0, 2, 1)]
abbrev awM : List Ed := [(0, 1, 1), (0, 2, 1), (1, 2, 1)]
theorem aw_merge : mergeE awL = some awM := by decide
theorem aw_err : errN 3 awL = (0, 0) := by decide
theorem aw_in : InL awL := by
  intro e he
  simp only [List.mem_cons, List.not_mem_nil, or_false] at he
  rcases he with rfl | rfl | rfl <;> (unfold InE In; simp)
theorem aw_facts : lsW 3 awM = 2 ∧ lsS 3 awM = [1] ∧ lsC 3 awM = 3 ∧ prW 3 awM 1 0 = 2 ∧ smallE ((3 : Nat) : Int) = 0 ∧ prE 3 1 0 = 0 := by decide
theorem lit_one (w : World) (x : Int) (T : TypeId) : Below w.heap.size w (w.alloc (.cells #[.int .i64 x] T)) ∧ ReadsL encZ (w.alloc (.cells #[.int .i64 x] T)).heap.size (w.alloc (.cells #[.int .i64 x] T)) (some ⟨w.heap.size, 0, none⟩) [x] := by
  refine ⟨(Below.refl _ _).alloc (Nat.le_refl _) _, Or.inr ⟨w.heap.size, 0, rfl, by simp, fun i hi => ?_⟩⟩
  match i, hi with
  | 0, _ => simp [encZ]
set_option maxRecDepth 100000 in
set_option maxHeartbeats 1600000 in
theorem awake_any (w : World) (hT : Tab w) : Calls Tryd.prog 5 #[] w fun e w' => e = .returned (.bool true) ∧ Below w.heap.size w w' := by
  have HTab := Lib.hid hT
  clear hT
  have hb0 : Below w.heap.size w (w.alloc (.cells #[.int .i64 0, .int .i64 1, .int .i64 1, .int .i64 1, .int .i64 2, .int .i64 1, .int .i64 0, .int .i64 2, .int .i64 1] 54)) := (Below.refl _ _).alloc (Nat.le_refl _) _
  have hR : ReadsE (w.alloc (.cells #[.int .i64 0, .int .i64 1, .int .i64 1, .int .i64 1, .int .i64 2, .int .i64 1, .int .i64 0, .int .i64 2, .int .i64 1] 54)).heap.size (w.alloc (.cells #[.int .i64 0, .int .i64 1, .int .i64 1, .int .i64 1, .int .i64 2, .int .i64 1, .int .i64 0, .int .i64 2, .int .i64 1] 54)) (some ⟨w.heap.size, 0, none⟩) awL := by
    refine Or.inr ⟨w.heap.size, 0, rfl, by simp, fun i hi => ?_⟩
    match i, hi with
    | 0, _ => simp
    | 1, _ => simp
    | 2, _ => simp
  have HM := Lib.hid (newNet_any 3 _ 3 _ aw_in _ hR)
  have HB := Lib.hid hb0
  obtain ⟨f1, f2, f3, f4, f5, f6⟩ := aw_facts
  clear hR hb0
  go_enter Tryd.func5, Tryd.ntmps5
  go_wp2_with fail
  refine HM.out.mono ?_
  rintro e w1 ⟨hb1, ⟨hn, -⟩ | ⟨-, N, M, g0, hN, hN4, hg, -, -, hA, rfl, hn⟩⟩
  · rw [aw_err] at hn; exact absurd rfl hn
  obtain rfl := Option.some.inj (aw_merge.symm.trans hA)
  obtain rfl : N = 3 := by omega
  replace HB := Lib.hid (HB.out.trans (hb1.mono HB.out.size))
  have HG := Lib.hid hg
  have HN := Lib.hid hn
  have HL1 := Lib.hid (fun w h ht => brLeast_any (some ⟨g0, 0, none⟩) 3 awM (by omega) HG.out (by simp) w h ht)
  have HL2 := Lib.hid (fun w h ht => brCount_any (some ⟨g0, 0, none⟩) 3 awM (by omega) HG.out (by simp) w h ht)
  have HL3 := Lib.hid (fun w h ht => brPair_any (some ⟨g0, 0, none⟩) 3 awM (by omega) HG.out (by simp) 1 0 w h ht)
  unfold SideC at HL1 HL3
  rw [f1, f2, f5] at HL1
  rw [f3, f5] at HL2
  rw [f4, f6] at HL3
  clear hb1 hA hg hn HM hN f1 f2 f3 f4 f5 f6
  go_wp2_with fail
  refine (HL1.out _ HN.out (tab_on HTab.out (by first | exact Below.refl _ _ | exact HB.out | exact HB.out.1 | exact HB.out.1.1 | exact HBL.out | exact HBL.out.1 | exact HBL.out.1.1 | exact HT2.out | exact HT2.out.1 | exact HT2.out.1.1 | exact HT4.out | exact HT4.out.1 | exact HT4.out.1.1) (Nat.le_refl _))).mono ?_
  rintro e w2 ⟨hb2, q2, c2, rfl, hr2⟩
  have hbA : Below w2.heap.size w2 (w2.alloc (.cells #[.int .i64 2, .slice q2 1 c2] 31)) := (Below.refl _ _).alloc (Nat.le_refl _) _
  have hbB := hb2.trans (hbA.mono hb2.size)
  replace HB := Lib.hid (HB.out.trans (hbB.mono HB.out.size))
  replace HN := Lib.hid (HN.out.over hbB)
  have HR2 := Lib.hid (hr2.over hbA (Nat.le_refl _))
  have HT2 := Lib.hid (TwoAt.new w2 (.int .i64 2) (.slice q2 1 c2) 31)
  clear hb2 hbA hbB hr2
  go_wp2_with fail
  generalize w2.alloc (.cells #[.int .i64 2, .slice q2 1 c2] 31) = W2 at *
  generalize w2.heap.size = X at *
  refine (HL2.out _ HN.out (tab_on HTab.out (by first | exact Below.refl _ _ | exact HB.out | exact HB.out.1 | exact HB.out.1.1 | exact HBL.out | exact HBL.out.1 | exact HBL.out.1.1 | exact HT2.out | exact HT2.out.1 | exact HT2.out.1.1 | exact HT4.out | exact HT4.out.1 | exact HT4.out.1.1) (Nat.le_refl _))).mono ?_
  rintro e w3 ⟨rfl, hb3⟩
  replace HB := Lib.hid (HB.out.trans (hb3.mono HB.out.size))
  replace HN := Lib.hid (HN.out.over hb3)
  replace HR2 := Lib.hid (HR2.out.over hb3 (Nat.le_refl _))
  replace HT2 := Lib.hid (HT2.out.on hb3 HT2.out.lt)
  clear hb3
  go_wp2_with fail
  refine (HL3.out _ HN.out (tab_on HTab.out (by first | exact Below.refl _ _ | exact HB.out | exact HB.out.1 | exact HB.out.1.1 | exact HBL.out | exact HBL.out.1 | exact HBL.out.1.1 | exact HT2.out | exact HT2.out.1 | exact HT2.out.1.1 | exact HT4.out | exact HT4.out.1 | exact HT4.out.1.1) (Nat.le_refl _))).mono ?_
  generalize prS 3 awM 1 0 = ps at *
  rintro e w4 ⟨hb4, q4, c4, rfl, -⟩
  have hbA : Below w4.heap.size w4 (w4.alloc (.cells #[.int .i64 2, .slice q4 ps.length c4] 31)) := (Below.refl _ _).alloc (Nat.le_refl _) _
  have hbB := hb4.trans (hbA.mono hb4.size)
  replace HB := Lib.hid (HB.out.trans (hbB.mono HB.out.size))
  replace HR2 := Lib.hid (HR2.out.over hbB (Nat.le_refl _))
  replace HT2 := Lib.hid (HT2.out.on hbB HT2.out.lt)
  have HT4 := Lib.hid (TwoAt.new w4 (.int .i64 2) (.slice q4 ps.length c4) 31)
  clear hb4 hbA hbB
  generalize hW4 : w4.alloc (.cells #[.int .i64 2, .slice q4 ps.length c4] 31) = W4 at *
  generalize hY : w4.heap.size = Y at *
  have HWY := Lib.hid (And.intro hW4 hY)
  clear hW4 hY
  obtain ⟨m0, m1, -, -⟩ := HT2.out
  obtain ⟨n0, n1, -, -⟩ := HT4.out
  have ml := HT2.out.lt
  have nl := HT4.out.lt
  obtain ⟨l1, l2⟩ := lit_one W4 1 3
  have HI := Lib.hid (ints_any q2 _ c2 1 [1] [1] _ (HR2.out.over l1 (Nat.le_refl _)) l2 (by simp))
  rw [show decide (([1] : List Int) = [1]) = true from rfl] at HI
  have HBL := Lib.hid (HB.out.trans (l1.mono HB.out.size))
  have HN0 := Lib.hid (HT4.out.on l1 HT4.out.lt)
  clear l1 l2
  go_upto_region 5 with fail
  rw [HWY.out.1, HWY.out.2]
  go_wp2_with fail
  refine HI.out.mono ?_
  rintro e w5 ⟨rfl, m5, rfl⟩
  have hb5 : Below (W4.alloc (.cells #[.int .i64 1] 3)).heap.size (W4.alloc (.cells #[.int .i64 1] 3)) ((W4.alloc (.cells #[.int .i64 1] 3)).drewN m5) := below_drewN (Below.refl _ _) m5
  replace HBL := Lib.hid (HBL.out.trans (hb5.mono HBL.out.size))
  obtain ⟨p0, p1, -, -⟩ := HN0.out.on hb5 HN0.out.lt
  generalize (W4.alloc (.cells #[.int .i64 1] 3)).drewN m5 = w6 at *
  clear hb5 HI n0 n1 nl
  have nl := World.block_lt_of_cell? w6 _ p0
  go_wp2
  go_ret
  exact ⟨rfl, HBL.out⟩
end Go.Proofs.YtceejjgmepaonaaDoor.Br
/- Contracts of the document's Add and Sum of layer 1 (cut out of XNumRef: a later stage's reference that adds takes this text). -/
namespace Go.Proofs.YtceejjgmepaonaaDoor
open Go.RowKit Go.ChangeShapes NumPure
theorem refAdd_any (a b : Int) (ha : -9223372036854775808 ≤ a ∧ a ≤ 9223372036854775807) (hb : -9223372036854775808 ≤ b ∧ b ≤ 9223372036854775807) (w : World) :
    Calls Tryd.prog 71 #[.int .i64 a, .int .i64 b] w fun e w' => e = .returned (.agg #[.int .i64 (cut (a + b)), .bool (fitsB (a + b))]) ∧ Below w.heap.size w w' := by
  obtain ⟨ha1, ha2⟩ := ha
  obtain ⟨hb1, hb2⟩ := hb
  by_cases h : -9223372036854775808 ≤ a + b ∧ a + b ≤ 9223372036854775807
  · have e1 := Lib.hid (cut_in h)
    have e2 := Lib.hid ((fits_iff _).2 h)
    obtain ⟨h1, h2⟩ := h
    by_cases h0 : 0 ≤ b
    · go_enter Tryd.func71, Tryd.ntmps71
      go_wp2
      refine bodyPost_ret (v := .agg #[.int .i64 (a + b), .bool true]) (by simp [results, Tryd.results71, go_sem]) rfl ⟨agg_ib e1.out.symm e2.out.symm, (Below.refl _ _).alloc (Nat.le_refl _) _⟩
    · go_enter Tryd.func71, Tryd.ntmps71
      go_wp2
      refine bodyPost_ret (v := .agg #[.int .i64 (a + b), .bool true]) (by simp [results, Tryd.results71, go_sem]) rfl ⟨agg_ib e1.out.symm e2.out.symm, (Below.refl _ _).alloc (Nat.le_refl _) _⟩
  · have e1 := Lib.hid (cut_out h)
    have e2 := Lib.hid ((fits_not _).2 h)
    by_cases h0 : 0 ≤ b
    · have h3 := wrap_add_up a b ha2 h0 hb2 (by omega)
      clear h
      go_enter Tryd.func71, Tryd.ntmps71
      go_wp2
      refine bodyPost_ret (v := .agg #[.int .i64 0, .bool false]) (by simp [results, Tryd.results71, go_sem]) rfl ⟨agg_ib e1.out.symm e2.out.symm, (Below.refl _ _).alloc (Nat.le_refl _) _⟩
    · have h3 := wrap_add_down a b ha1 (by omega) hb1 (by omega)
      clear h
      go_enter Tryd.func71, Tryd.ntmps71
      go_wp2
      refine bodyPost_ret (v := .agg #[.int .i64 0, .bool false]) (by simp [results, Tryd.results71, go_sem]) rfl ⟨agg_ib e1.out.symm e2.out.symm, (Below.refl _ _).alloc (Nat.le_refl _) _⟩
/-- The document's sum, number by number. -/
def RefAt (M : Nat) (w : World) (p : Int × Bool) : Prop :=
  w.cell? ⟨M, 0, none⟩ = some (.int .i64 p.1) ∧ w.cell? ⟨M, 1, none⟩ = some (.bool p.2) ∧ w.frozen? ⟨M, 0, none⟩ = false ∧ w.frozen? ⟨M, 1, none⟩ = false
theorem RefAt.on {M : Nat} {w w' : World} {p : Int × Bool} (h : RefAt M w p) (hb : Below (M + 1) w w') : RefAt M w' p := by
  obtain ⟨h0, h1, f0, f1⟩ := h
  exact ⟨(hb.cell (by simp)).trans h0, (hb.cell (by simp)).trans h1, (hb.frozen (by simp)).trans f0, (hb.frozen (by simp)).trans f1⟩
theorem RefAt.set {N : Nat} {w : World} {p : Int × Bool} (h : RefAt N w p) (q : Int × Bool) : RefAt N ((w.setCell ⟨N, 0, none⟩ (.int .i64 q.1)).setCell ⟨N, 1, none⟩ (.bool q.2)) q := by
  obtain ⟨h0, h1, f0, f1⟩ := h
  have h1' : (w.setCell ⟨N, 0, none⟩ (.int .i64 q.1)).cell? ⟨N, 1, none⟩ = some (.bool p.2) := (World.cell?_setCell_other w ⟨N, 0, none⟩ ⟨N, 1, none⟩ _ (by simp)).trans h1
  refine ⟨(World.cell?_setCell_other _ ⟨N, 1, none⟩ ⟨N, 0, none⟩ _ (by simp)).trans (World.cell?_setCell_same _ _ _ h0), World.cell?_setCell_same _ _ _ h1', ?_, ?_⟩
  · simpa using f0
  · simpa using f1
theorem RefAt.lt {M : Nat} {w : World} {p : Int × Bool} (h : RefAt M w p) : M < w.heap.size := by
  exact World.block_lt_of_cell? w _ h.1
def RefRel (N : Nat) (w : World) (l : List Int) (k : Nat) (wr : World) : Prop := k ≤ l.length ∧ Below (N + 1) w wr ∧ RefAt (N + 1) wr (sumS (l.take k))
end Go.Proofs.YtceejjgmepaonaaDoor
