/- Texts that the laws of this seat stand on, part 40. -/
import Derived.Test.YtceejjgmepaonaaDoorPk39
import Derived.Test.YtceejjgmepaonaaDoorPk25
import Derived.Deep.RegionWith
import Derived.Test.YtceejjgmepaonaaDoorRows
import Derived.Test.YtceejjgmepaonaaDoorPk10
import Derived.Lib.LaidTab
import Derived.LaidLaws
import Derived.ChangeVars
import Derived.ChangeSame
import Derived.JoinedOf
import Derived.RowKit
import Derived.Handed
import Derived.ProofKit
/- brute's Matrix: what the least sides between each two weigh. -/
namespace Go.Proofs.YtceejjgmepaonaaDoor.Bg
open Go.RowKit Go.ChangeShapes BgPure BgRes EdPure NtPure Br
/-- The rows while they are made: the first k of them. -/
def MkAt (N R k : Nat) (rs : Nat → Nat) (F : Nat → Nat → Int) (W : World) : Prop :=
  RowIs R W (rowsV N k rs) ∧ R < W.heap.size ∧ ∀ u, u < k → RowIs (rs u) W (mtV N F u) ∧ (rs u < W.heap.size ∧ R + 1 < rs u) ∧ ∀ x, x < k → x ≠ u → rs x ≠ rs u
theorem MkAt.keep {N R k : Nat} {rs : Nat → Nat} {F : Nat → Nat → Int} {W W' : World} (h : MkAt N R k rs F W) (hb : Below W.heap.size W W') : MkAt N R k rs F W' := by
  have hs := hb.size
  exact ⟨h.1.on hb h.2.1, by have := h.2.1; omega, fun u hu => by
    obtain ⟨h1, ⟨h2, h3⟩, h4⟩ := h.2.2 u hu
    exact ⟨h1.on hb h2, ⟨by omega, h3⟩, h4⟩⟩
theorem MkAt.full {N R : Nat} {rs : Nat → Nat} {F : Nat → Nat → Int} {W : World} (h : MkAt N R N rs F W) : MtAt N R rs F W :=
  ⟨h.1, h.2.1, fun u hu => by
    obtain ⟨h1, ⟨h2, h3⟩, h4⟩ := h.2.2 u hu
    exact ⟨h1, ⟨h2, by omega⟩, h4⟩⟩
theorem rep_set {N k : Nat} (F : Nat → Nat → Int) (z : Int) (hF : ∀ v, v < N → F k v = if k = v then 0 else z) : (List.replicate N (Value.int .i64 z)).set k (.int .i64 0) = mtV N F k := by
  refine List.ext_getElem (by rw [List.length_set, mtV_len]; simp) fun i h1 h2 => ?_
  rw [List.getElem_set, mtV_at h2, hF i (by rw [mtV_len] at h2; exact h2)]
  by_cases e : k = i
  · rw [if_pos e, if_pos e]
  · rw [if_neg e, if_neg e]; simp
/-- One row more: it is laid among the rows, and its own place is turned. -/
theorem MkAt.row {N R k g : Nat} {rs : Nat → Nat} {F : Nat → Nat → Int} {W W1 : World} {z : Int} (h : MkAt N R k rs F W) (hb : Below W.heap.size W W1) (hk : k < N) (hR1 : R + 1 < W.heap.size) (hg : W.heap.size ≤ g) (hg2 : g < W1.heap.size) (hr : RowIs g W1 (List.replicate N (.int .i64 z)))
    (hF : ∀ v, v < N → F k v = if k = v then 0 else z) :
    MkAt N R (k + 1) (fun u => if u = k then g else rs u) F ((W1.setCell ⟨R, k, none⟩ (.slice (some ⟨g, 0, none⟩) N N)).setCell ⟨g, k, none⟩ (.int .i64 0)) := by
  have hR := h.2.1
  have hold := h.2.2
  obtain ⟨h1, h2, h3⟩ := h.keep hb
  refine ⟨?_, by simp; omega, fun u hu => ?_⟩
  · rw [← rowsV_next]
    exact row_other (h1.set (by rw [rowsV_len]; exact hk) _) (by omega) _
  · by_cases e : u = k
    · subst e
      show RowIs (if u = u then g else rs u) _ _ ∧ ((if u = u then g else rs u) < _ ∧ R + 1 < (if u = u then g else rs u)) ∧ ∀ x, x < u + 1 → x ≠ u → (if x = u then g else rs x) ≠ (if u = u then g else rs u)
      rw [if_pos rfl]
      refine ⟨?_, ⟨by simp; omega, by omega⟩, fun x hx hxu => ?_⟩
      · rw [← rep_set F z hF]
        exact (row_other hr (by omega) _).set (by simp; exact hk) _
      · rw [if_neg hxu]
        have := (hold x (by omega)).2.1.1
        omega
    · show RowIs (if u = k then g else rs u) _ _ ∧ ((if u = k then g else rs u) < _ ∧ R + 1 < (if u = k then g else rs u)) ∧ ∀ x, x < k + 1 → x ≠ u → (if x = k then g else rs x) ≠ (if u = k then g else rs u)
      rw [if_neg e]
      obtain ⟨a1, ⟨a2, a3⟩, a4⟩ := h3 u (by omega)
      have ho := (hold u (by omega)).2.1.1
      refine ⟨row_other (row_other a1 (by omega) _) (by omega) _, ⟨by simpa using a2, a3⟩, fun x hx hxu => ?_⟩
      by_cases e2 : x = k
      · rw [if_pos e2]; omega
      · rw [if_neg e2]; exact a4 x (by omega) hxu
/-- The variables beside the rows: how many vertices, the rows. -/
def MvSt (w : World) (Bn Br N R : Nat) (W : World) : Prop := Below w.heap.size w W ∧ (w.heap.size ≤ Bn ∧ w.heap.size ≤ R ∧ w.heap.size ≤ Br) ∧ W.cell? ⟨Bn, 0, none⟩ = some (.int .i64 (N : Int)) ∧ W.cell? ⟨Br, 0, none⟩ = some (.slice (some ⟨R, 0, none⟩) N N)
theorem MvSt.lt {w : World} {Bn Br N R : Nat} {W : World} (h : MvSt w Bn Br N R W) : Bn < W.heap.size ∧ Br < W.heap.size := ⟨World.block_lt_of_cell? W _ h.2.2.1, World.block_lt_of_cell? W _ h.2.2.2⟩
theorem MvSt.keep {w : World} {Bn Br N R : Nat} {W W' : World} (h : MvSt w Bn Br N R W) (hb : Below W.heap.size W W') : MvSt w Bn Br N R W' :=
  ⟨h.1.trans (hb.mono h.1.size), h.2.1, (hb.cell (p := ⟨Bn, 0, none⟩) h.lt.1).trans h.2.2.1, (hb.cell (p := ⟨Br, 0, none⟩) h.lt.2).trans h.2.2.2⟩
theorem MvSt.put {w : World} {Bn Br N R b i : Nat} {W : World} (h : MvSt w Bn Br N R W) (hb : w.heap.size ≤ b) (h1 : b ≠ Bn) (h2 : b ≠ Br) (v : Value) : MvSt w Bn Br N R (W.setCell ⟨b, i, none⟩ v) :=
  ⟨h.1.setCell (p := ⟨b, i, none⟩) hb v, h.2.1, (World.cell?_of_block (cell_other (i := i) (Ne.symm h1))).trans h.2.2.1, (World.cell?_of_block (cell_other (i := i) (Ne.symm h2))).trans h.2.2.2⟩
/-- What is read of the rows. -/
theorem mt_rows {N R B : Nat} {rs : Nat → Nat} {F : Nat → Nat → Int} {W : World} (h : MtAt N R rs F W) (hR : B ≤ R) (hr : ∀ u, u < N → B ≤ rs u) : RowsAt B W (some ⟨R, 0, none⟩) ((List.range N).map fun u => (List.range N).map fun v => F u v) := by
  refine Or.inr ⟨R, 0, rfl, hR, h.2.1, fun i l hi => ?_⟩
  obtain ⟨hi2, rfl⟩ := List.getElem?_eq_some_iff.1 hi
  have hiN : i < N := by simpa using hi2
  refine ⟨some ⟨rs i, 0, none⟩, N, ?_, ?_, fun z hz => by cases hz; exact hr i hiN⟩
  · rw [Nat.zero_add, h.row hiN]
    simp
  · have e : mtV N F i = ((List.range N).map fun v => F i v).map encZ := by unfold mtV encZ; rw [List.map_map]; rfl
    have h2 := (h.2.2 i hiN).1
    rw [e] at h2
    simpa using h2.reads
set_option maxRecDepth 100000 in
set_option maxHeartbeats 8000000 in
theorem brMatrix_any (p : Option Addr) (N : Nat) (M : List Ed) (_hN : N ≤ 4096) (hG : GoodN N M) (hM : M.length ≤ 100000) (w : World) (h : NetAt p N M w) (hT : Tab w) :
    Calls Tryd.prog 10 #[.pointer p] w fun e w' => RowsE (mxM N M) (mxE N) w e w' := by
  have HNum := Lib.hid (num_any p N M w h)
  have HNet := Lib.hid h
  have HTab := Lib.hid hT
  clear h hT
  by_cases h20 : 20 < N
  · have e1 : mxM N M = [] := if_pos h20
    have e2 : mxE N = 3 := if_pos h20
    rw [e1, e2]
    clear hG e1 e2 HNet HTab
    have i1 : (N : Int) > 20 := by omega
    go_enter Tryd.func10, Tryd.ntmps10
    go_wp2_with fail
    refine HNum.out.mono ?_
    rintro e w1 ⟨rfl, hb1⟩
    have HE := Lib.hid (hb1.alloc hb1.size (.cells #[.int .i64 (N : Int)] 3))
    clear hb1
    go_wp2
    go_ret2
    exact ⟨HE.out, none, 0, 0, rfl, Or.inl rfl⟩
  have h20' : N ≤ 20 := by omega
  have e1 : mxM N M = mxL M N N := if_neg h20
  have e2 : mxE N = 0 := if_neg h20
  rw [e1, e2, mx_rows hG h20']
  have i1 : ¬ (N : Int) > 20 := by omega
  have hmk := fun W => makeRow (P := Tryd.prog) (T := 42) (E := 90) (z := .slice none 0 0) (c := 24) Tryd.underlying42 info_w (by decide) rfl N (by omega) W
  have hF0 : ∀ k v : Nat, mxF M 0 k v = if k = v then 0 else 9223372036854775807 := fun k v => rfl
  have HF0 := Lib.hid hF0
  have HG := Lib.hid hG
  have hmf : ∀ (w : World) (x y : Value), (Instr.makeFunc (.func 38) #[] #[x, y]).run Tryd.prog w = .ok (.func (.func 38) #[] #[x, y]) w := fun w x y => rfl
  clear hF0 hG e1 e2 h20 _hN
  go_enter Tryd.func10, Tryd.ntmps10
  go_wp2_with fail
  refine HNum.out.mono ?_
  rintro e w1 ⟨rfl, hb1⟩
  have HB1 := Lib.hid hb1
  have hA : Below w1.heap.size w1 (w1.alloc (.cells #[.int .i64 (N : Int)] 3)) := (Below.refl _ _).alloc (Nat.le_refl _) _
  have HA := Lib.hid hA
  have hcn := (CellAt.new w1 (.int .i64 (N : Int)) 3).1
  have hsz : (w1.alloc (.cells #[.int .i64 (N : Int)] 3)).heap.size = w1.heap.size + 1 := by simp
  clear hb1 hA HNum
  go_upto_region 4 with fail
  generalize w1.alloc (.cells #[.int .i64 (N : Int)] 3) = W1 at *
  have HSz := Lib.hid hsz
  have hcl : w1.heap.size < W1.heap.size := by omega
  clear hsz
  go_upto_region 5 with fail
  have hmv : MvSt w w1.heap.size (W1.heap.size + 1) N W1.heap.size ((W1.alloc (.cells (madeCells #[.slice none 0 0] N) 90)).alloc (.cells #[.slice (some ⟨W1.heap.size, 0, none⟩) N N] 42)) ∧
      MkAt N W1.heap.size 0 (fun _ => 0) (mxF M 0) ((W1.alloc (.cells (madeCells #[.slice none 0 0] N) 90)).alloc (.cells #[.slice (some ⟨W1.heap.size, 0, none⟩) N N] 42)) := by
    have b1 : Below W1.heap.size W1 (W1.alloc (.cells (madeCells #[.slice none 0 0] N) 90)) := (Below.refl _ _).alloc (Nat.le_refl _) _
    have b2 := (Below.refl _ (W1.alloc (.cells (madeCells #[.slice none 0 0] N) 90))).alloc (Nat.le_refl _) (.cells #[.slice (some ⟨W1.heap.size, 0, none⟩) N N] 42)
    have hr := rowIs_made W1 (.slice none 0 0) N 90
    have hc := CellAt.new (W1.alloc (.cells (madeCells #[.slice none 0 0] N) 90)) (.slice (some ⟨W1.heap.size, 0, none⟩) N N) 42
    rw [World.size_alloc] at hc
    have hw1 := HB1.out.size
    have bw : Below w.heap.size w W1 := HB1.out.trans (HA.out.mono hw1)
    have b12 := b1.trans (b2.mono b1.size)
    refine ⟨⟨bw.trans (b12.mono bw.size), ⟨hw1, bw.size, Nat.le_succ_of_le bw.size⟩, (b12.cell (p := ⟨w1.heap.size, 0, none⟩) hcl).trans hcn, hc.1⟩, ?_, by simp; omega, fun u hu => by omega⟩
    rw [rowsV_zero]
    exact hr.on b2 (by simp)
  have HMv := Lib.hid hmv.1
  have HMk := Lib.hid hmv.2
  have hne : w1.heap.size ≠ W1.heap.size := by omega
  have HBR := Lib.hid hcl
  have hlt0 := hmv.1.lt
  have hc5 := hmv.1.2.2.2
  clear hmv hcn
  generalize (W1.alloc (.cells (madeCells #[.slice none 0 0] N) 90)).alloc (.cells #[.slice (some ⟨W1.heap.size, 0, none⟩) N N] 42) = W2 at *
  generalize w1.heap.size = Bn at *
  generalize W1.heap.size = R at *
  obtain ⟨hlt1, hlt2⟩ := hlt0
  go_wp2_with fail
  clear hlt1 hlt2 hc5
  go_loopw [15] (fun i wr => ∃ k : Nat, i = .int .i64 k ∧ k ≤ N ∧ Hid (MvSt w Bn (R + 1) N R wr) ∧ Hid (∃ rs, MkAt N R k rs (mxF M 0) wr)) (fun i _ => N - (intOf i).toNat)
  case atStart => exact ⟨0, rfl, Nat.zero_le _, HMv, Lib.hid ⟨_, HMk.out⟩⟩
  case round =>
    clear HMv HMk
    obtain ⟨k, rfl, hk, HV, HK⟩ := hrel
    have i0 : (0 : Int) ≤ (k : Int) := by omega
    by_cases hlt : k < N
    · have i2 : (k : Int) < (N : Int) := by omega
      obtain ⟨rs, hK⟩ := HK.out
      have HKs := Lib.hid hK
      obtain ⟨hl1, hl2⟩ := HV.out.lt
      have c4 := HV.out.2.2.1
      have c5 := HV.out.2.2.2
      obtain ⟨cR, fR⟩ := hK.1 k (by rw [rowsV_len]; exact hlt)
      rw [rowsV_at, if_neg (Nat.lt_irrefl k)] at cR
      have hRl := hK.2.1
      clear hK HK
      go_wp2_with fail
      go_region_with (first | (go_at_call 36; refine (repeat_any wr.heap.size 1 N 9223372036854775807 (by omega) _ (by simp)).mono ?_; rintro e w5 ⟨g, rfl, hb5, hg5, hgl5, hr5⟩; have hA5 : Below wr.heap.size wr (wr.alloc (.cells #[.int .i64 9223372036854775807] 2)).drew := below_drewN ((Below.refl _ _).alloc (Nat.le_refl _) _) 1; have HB5 := Lib.hid (hA5.trans (hb5.mono hA5.size)); have HV5 := Lib.hid (HV.out.keep HB5.out); have hgg : wr.heap.size ≤ g := (by have := hA5.size; omega); have HK5 := Lib.hid (HKs.out.row HB5.out hlt HV.out.lt.2 hgg hgl5 hr5 (fun v _ => HF0.out k v)); have HR5 := Lib.hid hr5; obtain ⟨c4', c5'⟩ := HV5.out.2.2; obtain ⟨cR', fR'⟩ := (HKs.out.keep HB5.out).1 k (by rw [rowsV_len]; exact hlt); have hRl' := (HKs.out.keep HB5.out).2.1; obtain ⟨hl1', hl2'⟩ := HV5.out.lt; clear hb5 hr5 hA5))
      all_goals clear c4 c5 cR fR hl1 hl2 hRl
      all_goals have hRg : R ≠ g := by have := HKs.out.2.1; omega
      all_goals have hBg : R + 1 ≠ g := by have := HV.out.lt.2; omega
      all_goals have HV6 := Lib.hid (HV5.out.put (b := R) (i := k) HV5.out.2.1.2.1 (Ne.symm hne) (by omega) (.slice (some ⟨g, 0, none⟩) N N))
      all_goals have d5 := HV6.out.2.2.2
      all_goals have dR : (w5.setCell ⟨R, k, none⟩ (.slice (some ⟨g, 0, none⟩) N N)).cell? ⟨R, k, none⟩ = some (.slice (some ⟨g, 0, none⟩) N N) := ((HKs.out.keep HB5.out).1.set (by rw [rowsV_len]; exact hlt) (.slice (some ⟨g, 0, none⟩) N N) k (by rw [List.length_set, rowsV_len]; exact hlt)).1.trans (by simp)
      all_goals obtain ⟨dg, dgf⟩ := (row_other HR5.out (Ne.symm hRg) (i := k) (.slice (some ⟨g, 0, none⟩) N N)) k (by simp; exact hlt)
      all_goals rw [List.getElem_replicate] at dg
      all_goals have dgl : g < (w5.setCell ⟨R, k, none⟩ (.slice (some ⟨g, 0, none⟩) N N)).heap.size := by simpa using hgl5
      all_goals have HV7 := Lib.hid (HV6.out.put (b := g) (i := k) (by have := HV.out.1.size; omega) (by have := HV.out.lt.1; omega) (Ne.symm hBg) (.int .i64 0))
      all_goals have dRl := World.block_lt_of_cell? _ _ dR
      all_goals have dBl := World.block_lt_of_cell? _ _ d5
      all_goals clear c4' c5' cR' fR' hl1' hl2' hRl' HR5 HV5
      all_goals go_upto_region 9 with fail
      all_goals generalize w5.setCell ⟨R, k, none⟩ (.slice (some ⟨g, 0, none⟩) N N) = W6 at *
      all_goals go_wp2
      all_goals go_roundw
      all_goals first
        | exact ⟨k + 1, by go_num, by omega, HV7, Lib.hid ⟨_, HK5.out⟩⟩
        | (simp [intOf] <;> omega)
    · have hke : k = N := by omega
      subst hke
      obtain ⟨rs, hK⟩ := HK.out
      have hO : ∀ x, MtO k rs x → R + 1 < x ∧ x < wr.heap.size := fun x ⟨u, hu, e⟩ => by rw [e]; exact ⟨(hK.2.2 u hu).2.1.2, (hK.2.2 u hu).2.1.1⟩
      have hwR := HV.out.2.1
      have htl := tab_lt HTab.out
      have HTh := Lib.hid (through_any p k M h20' HG.out (by omega) w wr HNet.out HTab.out 38 #[.pointer (some ⟨Bn, 0, none⟩), .pointer (some ⟨R + 1, 0, none⟩)] (enters_of Tryd.func38 (by kernel_rfl) rfl)
        (fun b i V => (MvSt w Bn (R + 1) k R V ∧ b ≤ V.heap.size) ∧ MtAt k R rs (mxF M i) V)
        (fun V hb => ⟨⟨HV.out.keep hb, Nat.le_refl _⟩, hK.full.keep hb⟩) HV.out.1 (fun b i V hJ => hJ.1.1.1)
        (fun b i V V' hJ hb => ⟨⟨hJ.1.1.keep hb, Nat.le_trans hJ.1.2 hb.size⟩, hJ.2.keep hb⟩)
        (fun b i V hi hJ => by
          have hk1 : 1 ≤ k := by
            apply Classical.byContradiction
            intro hc
            rw [show k = 0 by omega] at hi
            simp at hi
          have hg : gaG (i + 1) < 2 ^ k := by
            have := ga_lt (i := i + 1) (k := k - 1) (by omega)
            rwa [show k - 1 + 1 = k by omega] at this
          refine (mat_note k R Bn (R + 1) rs (mxF M i) (fun x y => mxF_symm M x y i) h20' (gaG (i + 1)) hg (wG M (i + 1)) V hJ.1.1.2.2.1 hJ.1.1.2.2.2 (fun hh => by have := hO _ hh; have := HBR.out; omega) (fun hh => by have := hO _ hh; omega) hJ.2
            (tab_on HTab.out hJ.1.1.1 (Nat.le_refl _)) (fun hh => by have := hO _ hh; omega)).mono ?_
          rintro e V' ⟨h1, h2, h3⟩
          have hB' : Below w.heap.size V V' := h3.below hJ.1.1.1.size (fun x hx => by have := hO x hx; omega)
          refine ⟨h1, ⟨⟨⟨hJ.1.1.1.trans hB', hJ.1.1.2.1, turn_cell h3 hJ.1.1.2.2.1 (fun hh => by have := hO Bn hh; have := HBR.out; omega), turn_cell h3 hJ.1.1.2.2.2 (fun hh => by have := hO (R + 1) hh; omega)⟩, Nat.le_trans hJ.1.2 h3.size⟩, h2.congr fun x y hx hy => ?_⟩, h3.size, fun x x1 x2 => h3.2.2.2.2 x (Nat.lt_of_lt_of_le x2 hJ.1.2) (fun hh => Nat.not_lt_of_le x1 (hO _ hh).2)⟩
          show minF (mxF M i) (wG M (i + 1)) _ x y = if prA x y (gaG (i + 1)) = true then min (mxF M i x y) (wG M (i + 1)) else mxF M i x y
          unfold minF
          rw [pair_all (by omega) hg hx hy]))
      have HRs : Hid (∀ u, u < k → w.heap.size ≤ rs u) := Lib.hid (fun u hu => by have := (hO (rs u) ⟨u, hu, rfl⟩).1; have := hwR.2.1; omega)
      clear hK HK hO htl
      go_wp2_with fail
      refine HTh.out.mono ?_
      rintro e w9 ⟨⟨v9, rfl⟩, b9, ⟨hmv9, -⟩, hmt9⟩
      have HMv9 := Lib.hid hmv9
      have HMt9 := Lib.hid hmt9
      have c9 := hmv9.2.2.2
      have l9 := hmv9.lt.2
      clear hmv9 hmt9 HTh
      go_wp2
      go_ret2
      refine ⟨HMv9.out.1, some ⟨R, 0, none⟩, k, w.heap.size, by simp, ?_⟩
      exact mt_rows HMt9.out hwR.2.1 HRs.out
end Go.Proofs.YtceejjgmepaonaaDoor.Bg
/- The library's table of de Bruijn, as the rows of this seat list it: what the condition gives a walk, and a world that meets it. -/
namespace Go.Proofs.YtceejjgmepaonaaDoor
open Go.ChangeShapes Go.WideShapes Go.ChangeAt Go.RowKit
theorem own : ownKnob Tryd.prog.godebug = none := by kernel_rfl
theorem tabName : Tryd.prog.globalNamed (Rows.brutePairsRow.laid.map (·.1)).head! = some 0 := by kernel_rfl
theorem tab_of_laid {W : World} (h : laidMetH Tryd.prog Rows.brutePairsRow.laid W) : TabAt 0 Lib.deBruijn32tab W := by
  have h' : laidMet Tryd.prog ((_, Lib.tabData .u8 (Lib.deBruijn32tab.map fun n : Nat => (n : Int))) :: []) W := h
  have hT := Lib.tabIs_of_head (t := 141) (n := 32) tabName (by kernel_rfl) Tryd.underlying141 Tryd.underlying5 (by kernel_rfl) (by kernel_rfl) h'
  intro j hj
  have := hT.cell tabName j (by simpa using hj)
  rw [this]
  simp [List.getD_eq_getElem?_getD, hj]
/-- The settled world, the table's cells laid. -/
def laidWorld (P : Program) (os : Os) : World :=
  { World.holding P os ⟨#[], #[], []⟩ with heap := (World.holding P os ⟨#[], #[], []⟩).heap.setIfInBounds 0 (.cells (Lib.deBruijn32tab.map fun z : Nat => Value.int .u8 (z : Int)).toArray 141) }
theorem laid_met (os : Os) (args : Array Value) : laidMetH Tryd.prog Rows.brutePairsRow.laid ((laidWorld Tryd.prog os).forCall (fun _ _ => 0) ⟨#[], args, []⟩).memory := by
  have h : laidMet Tryd.prog Rows.brutePairsRow.laid ((laidWorld Tryd.prog os).forCall (fun _ _ => 0) ⟨#[], args, []⟩).memory := laidMet_of_run' 8 (by kernel_rfl) (by kernel_rfl)
  exact h
end Go.Proofs.YtceejjgmepaonaaDoor
/- What is in all least sides between two is a least side; the least of all cuts is the least of all pairs', plainly (layer 22). -/
namespace Go.Proofs.YtceejjgmepaonaaDoor.Br
open Go.RowKit Go.ChangeShapes EdPure NtPure CutPure SdPure BrPure Cm Sd
/-- Of any two vertices: a right side that parts them, and the least cut between them. -/
theorem pair_facts {N : Nat} {M : List Ed} (hG : GoodN N M) (h20 : N ≤ 20) {s t : Int} (hs : 0 ≤ s ∧ s < N) (ht : 0 ≤ t ∧ t < N) (hst : s ≠ t) :
    prE N s t = 0 ∧ chkS (N : Int) (prS N M s t) = 0 ∧ cutW M (inS (prS N M s t)) = prW N M s t ∧ inS (prS N M s t) s = true ∧ inS (prS N M s t) t = false ∧ IsLam M s t (prW N M s t) := by
  have hb : bothE (N : Int) s t = 0 := by unfold bothE; rw [if_pos (by omega), if_neg hst]
  have he : prE N s t = 0 := by unfold prE; rw [if_pos hb, if_neg (by omega)]
  obtain ⟨w, c, e, hlam, hin, hleast, -⟩ := pair_core hG hs ht hst (pairB_ok M N s t (allS N))
  have hw : prW N M s t = w := by unfold prW; rw [if_pos he, e]; rfl
  have hc : prS N M s t = c := by unfold prS; rw [if_pos he, e]; rfl
  have hr : c.Pairwise (· < ·) := by
    have h := pairB_rises (M := M) (n := N) (s := s) (t := t) (allS N) fun l hl => (chkS_ok (all_right hl).1).1.2
    rw [e] at h
    exact h
  rw [hw, hc]
  have hS : RightS (N : Int) c := ⟨fun v hv => hin v (inS_iff.2 hv), hr⟩
  have hp := hleast.1
  refine ⟨he, ?_, lam_one hleast.lam hlam, hp.1, hp.2, hlam⟩
  rw [chk_good hS, if_neg]
  rintro (h | h)
  · have := inS_iff.1 hp.1
    rw [h] at this
    simp at this
  · have htn : t ∉ c := fun hm => by
      have h2 := hp.2
      rw [inS_iff.2 hm] at h2
      cases h2
    have := rises_miss hr (fun v hv => hS.1 v hv) ht.1 ht.2 htn
    omega
/-- The pairs ahead of s, t. -/
def Seen (N : Nat) (s t : Nat) (u v : Nat) : Prop := (u < s ∨ (u = s ∧ v < t)) ∧ u < N ∧ v < N ∧ u ≠ v
/-- The least so far, or -1 where there was none. -/
def BestI (N : Nat) (M : List Ed) (s t : Nat) (b : Int) : Prop :=
  (b = -1 ∧ ∀ u v, ¬ Seen N s t u v) ∨ (0 ≤ b ∧ (∃ u v, Seen N s t u v ∧ prW N M u v = b) ∧ ∀ u v, Seen N s t u v → b ≤ prW N M u v)
theorem BestI.start (N : Nat) (M : List Ed) : BestI N M 0 0 (-1) := Or.inl ⟨rfl, fun u v h => by unfold Seen at h; omega⟩
theorem BestI.row {N : Nat} {M : List Ed} {s : Nat} {b : Int} (h : BestI N M s N b) : BestI N M (s + 1) 0 b := by
  have e : ∀ u v, Seen N (s + 1) 0 u v ↔ Seen N s N u v := fun u v => by unfold Seen; constructor <;> (intro h; omega)
  unfold BestI at h ⊢
  simp only [e]
  exact h
theorem BestI.skip {N : Nat} {M : List Ed} {s : Nat} {b : Int} (h : BestI N M s s b) : BestI N M s (s + 1) b := by
  have e : ∀ u v, Seen N s (s + 1) u v ↔ Seen N s s u v := fun u v => by unfold Seen; constructor <;> (intro h; omega)
  unfold BestI at h ⊢
  simp only [e]
  exact h
theorem BestI.take {N : Nat} {M : List Ed} {s t : Nat} {b : Int} (h : BestI N M s t b) (hs : s < N) (ht : t < N) (hst : s ≠ t) (hp : 0 ≤ prW N M s t) (hb : b < 0 ∨ prW N M s t < b) : BestI N M s (t + 1) (prW N M s t) := by
  refine Or.inr ⟨hp, ⟨s, t, by unfold Seen; omega, rfl⟩, fun u v hv => ?_⟩
  by_cases e : u = s ∧ v = t
  · rw [e.1, e.2]; exact Int.le_refl _
  · have h2 : Seen N s t u v := by unfold Seen at hv ⊢; omega
    rcases h with ⟨h1, hn⟩ | ⟨h1, -, h3⟩
    · exact absurd h2 (hn u v)
    · have := h3 u v h2
      omega
theorem BestI.stay {N : Nat} {M : List Ed} {s t : Nat} {b : Int} (h : BestI N M s t b) (hb : ¬ b < 0) (h2 : ¬ prW N M s t < b) : BestI N M s (t + 1) b := by
  rcases h with ⟨h1, -⟩ | ⟨h1, ⟨u0, v0, h3, h4⟩, h5⟩
  · omega
  · refine Or.inr ⟨h1, ⟨u0, v0, by unfold Seen at h3 ⊢; omega, h4⟩, fun u v hv => ?_⟩
    by_cases e : u = s ∧ v = t
    · rw [e.1, e.2]; omega
    · exact h5 u v (by unfold Seen at hv ⊢; omega)
/-- Behind all pairs it is the least of all cuts. -/
theorem BestI.all {N : Nat} {M : List Ed} (hG : GoodN N M) (h2 : 2 ≤ N) (h20 : N ≤ 20) {b : Int} (h : BestI N M N 0 b) : b = lsW N M := by
  obtain ⟨w, x, e, hok, hchk, hcut⟩ := least_side (M := M) h2
  have hl : lsW N M = w := by unfold lsW; rw [if_pos (small_zero.2 ⟨h2, h20⟩), e]; rfl
  rw [hl]
  rcases h with ⟨-, hn⟩ | ⟨-, ⟨u, v, hs, hb⟩, hm⟩
  · exact absurd (show Seen N N 0 0 1 by unfold Seen; omega) (hn 0 1)
  · have hlow : ∀ u v : Nat, u < N → v < N → u ≠ v → w ≤ prW N M u v := fun u v hu hv huv => by
      obtain ⟨-, -, -, -, -, ⟨S, hS, e2⟩, -⟩ := pair_facts hG h20 (s := (u : Int)) (t := (v : Int)) (by omega) (by omega) (by omega)
      rw [← e2]
      exact least_all hG hok (s := (u : Int)) (t := (v : Int)) (by omega) (by omega) (by rw [hS.1, hS.2]; decide)
    obtain ⟨hr, hne, -⟩ := chkS_ok hchk
    obtain ⟨y, hy⟩ := List.exists_mem_of_ne_nil x hne
    have hyr := hr.1 y hy
    have h0 := (all_right hok.1).2
    have hy0 : y ≠ 0 := fun e3 => by rw [e3] at hy; rw [inS_iff.2 hy] at h0; cases h0
    have hup : prW N M y.toNat 0 ≤ w := by
      obtain ⟨-, -, -, -, -, -, hlam⟩ := pair_facts hG h20 (s := ((y.toNat : Nat) : Int)) (t := 0) (by omega) (by omega) (by omega)
      rw [← hcut]
      exact hlam (inS x) ⟨by rw [show ((y.toNat : Nat) : Int) = y by omega]; exact inS_iff.2 hy, h0⟩
    have hb1 := hm y.toNat 0 (by unfold Seen; omega)
    have hb2 := hlow u v hs.2.1 hs.2.2.1 hs.2.2.2
    have e0 : prW N M (y.toNat : Nat) ((0 : Nat) : Int) = prW N M y.toNat 0 := rfl
    omega
end Go.Proofs.YtceejjgmepaonaaDoor.Br
