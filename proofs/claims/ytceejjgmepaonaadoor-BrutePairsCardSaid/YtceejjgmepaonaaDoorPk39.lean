/- The note that brute's Matrix hands over: each two that the side parts are held against what it weighs. -/
import Derived.Test.YtceejjgmepaonaaDoorPk38
namespace Go.Proofs.YtceejjgmepaonaaDoor.Bg
open Go.RowKit Go.ChangeShapes BgPure BgRes EdPure NtPure
attribute [local go_sem] Oper.semAt_some
/-- What stands behind a note's call: the rows, and what else is as it was. -/
def NoOut (N R : Nat) (rs : Nat → Nat) (G : Nat → Nat → Int) (W : World) (e : Ending) (V : World) : Prop := (∃ v, e = .returned v) ∧ MtAt N R rs G V ∧ Turn (MtO N rs) W V
set_option maxRecDepth 100000 in
set_option maxHeartbeats 800000 in
theorem mat_note (N R Bn Br : Nat) (rs : Nat → Nat) (F : Nat → Nat → Int) (hF : ∀ x y, F x y = F y x) (hN : N ≤ 20) (g : Nat) (hg : g < 2 ^ N) (wt : Int) (W : World) (hn : W.cell? ⟨Bn, 0, none⟩ = some (.int .i64 (N : Int))) (hr : W.cell? ⟨Br, 0, none⟩ = some (.slice (some ⟨R, 0, none⟩) N N))
    (hnO : ¬ MtO N rs Bn) (hrO : ¬ MtO N rs Br) (h : MtAt N R rs F W) (hT : Tab W) (hTO : ¬ MtO N rs 0) :
    Calls Tryd.prog 38 #[.int .u32 (g : Int), .int .i64 wt, .pointer (some ⟨Bn, 0, none⟩), .pointer (some ⟨Br, 0, none⟩)] W fun e V => NoOut N R rs (minF F wt (pairD (grpN g) (grpN (othG N g)))) W e V := by
  have h2N : 2 ^ N ≤ 2 ^ 20 := Nat.pow_le_pow_right (by decide) hN
  have HG2 := Lib.hid hg
  have HOth := Lib.hid (other_any g N (by omega) hg)
  have hg32 : g < 4294967296 := by omega
  have ho32 : othG N g < 4294967296 := by have : othG N g < 2 ^ N := oth_lt; omega
  have b1 : Below W.heap.size W ((W.alloc (.cells #[.int .u32 (g : Int)] 74)).alloc (.cells #[.int .i64 wt] 2)) := ((Below.refl _ _).alloc (Nat.le_refl _) _).alloc (by simp) _
  have HM := Lib.hid (h.keep b1)
  have HB := Lib.hid b1
  have hcs := ((CellAt.new W (.int .u32 (g : Int)) 74).keep ((Below.refl _ _).alloc (Nat.le_refl _) (.cells #[.int .i64 wt] 2))).1
  have hcw := (CellAt.new (W.alloc (.cells #[.int .u32 (g : Int)] 74)) (.int .i64 wt) 2).1
  rw [World.size_alloc] at hcw
  have hcn := (b1.cell (p := ⟨Bn, 0, none⟩) (World.block_lt_of_cell? W _ hn)).trans hn
  have hcr := (b1.cell (p := ⟨Br, 0, none⟩) (World.block_lt_of_cell? W _ hr)).trans hr
  have HTab := Lib.hid (tab_keep hT b1)
  have hO : ∀ k, MtO N rs k → k < W.heap.size := fun k ⟨u, hu, e⟩ => by rw [e]; exact (h.2.2 u hu).2.1.1
  have HO := Lib.hid hO
  have hsO : ¬ MtO N rs W.heap.size := fun hh => by have := hO _ hh; omega
  have hwO : ¬ MtO N rs (W.heap.size + 1) := fun hh => by have := hO _ hh; omega
  have hsz : ((W.alloc (.cells #[.int .u32 (g : Int)] 74)).alloc (.cells #[.int .i64 wt] 2)).heap.size = W.heap.size + 2 := by simp
  have hmf : ∀ (w : World) (x : Value), (Instr.makeFunc (.func 39) #[x] #[]).run Tryd.prog w = .ok (.func (.func 39) #[x] #[]) w := fun w x => rfl
  clear h hT hn hr b1 hg hO
  refine (callsIn_wide (n := 5)).1 ?_
  have h1 : 1 ≤ 5 := by decide
  refine callsIn_of_wp_marks Tryd.func38 rfl trivial ?_ rfl
  simp only [Tryd.ntmps38, List.size_toArray, List.length_cons, List.length_nil, Nat.reduceAdd, Nat.reduceSub, Array.replicate_succ, Array.replicate_zero, List.push_toArray, List.append_toArray, List.nil_append, List.cons_append]
  gi_wp2_with fail
  generalize (W.alloc (.cells #[.int .u32 (g : Int)] 74)).alloc (.cells #[.int .i64 wt] 2) = W1 at *
  have hS0 : W.heap.size < W1.heap.size := by omega
  generalize hSE : W.heap.size = S0 at *
  refine range_out h1 (gf := 39) (recv := #[.int .u32 (g : Int)]) rfl (enters_of Tryd.func39 (by kernel_rfl) rfl) encN (grpN g)
    (fun pre V => MtAt N R rs (minF F wt (pairD pre (grpN (othG N g)))) V ∧ Turn (MtO N rs) W1 V)
    (OwnFrom.and (mt_own N R rs (fun pre => minF F wt (pairD pre (grpN (othG N g)))) _) (turn_own W1 (Nat.le_refl _)))
    (fun ys V V' h hb => ⟨h.1.keep hb, h.2.trans (Turn.ofBelow hb) (fun _ h => Or.inl h)⟩)
    ⟨HM.out.congr (fun u v _ _ => by unfold minF pairD; simp), Turn.refl _ _⟩ ?hit
    (fun x bb => { tmps := #[.int .u32 (g : Int), .int .i64 wt, .pointer (some ⟨Bn, 0, none⟩), .pointer (some ⟨Br, 0, none⟩), .pointer (some ⟨S0, 0, none⟩), .pointer (some ⟨S0 + 1, 0, none⟩), .pointer (some ⟨bb, 0, none⟩), undef, .int .u32 (g : Int), .func (.func 39) #[.int .u32 (g : Int)] #[], .int .i64 (x : Int), undef, undef, undef, undef, undef, undef, undef, undef, undef, undef, undef, undef, undef, undef, undef, undef, undef, undef, undef, undef, undef, undef, undef, undef, undef, undef, undef, undef, undef, undef, undef, undef, undef], defers := [] })
    (fun x V => V.alloc (.cells #[.int .i64 (x : Int)] 3)) (fun x bb V => V.cell? ⟨bb, 0, none⟩ = some (.int .i64 (x : Int))) ?hE ?haw ?assign ?body ?done
  case hit =>
    intro lp J V hJ hY h0
    exact each_in 4 (by decide) lp g hg32 J (fun ys V hj j hjl => turn_cell (hJ _ _ hj).2 (HTab.out j hjl) hTO) hY V h0
  case hE => exact fun bb x A B row hs hgr hro => cell_kept hs hgr (fun r e => (hro r e).2)
  case haw => exact fun x V => ⟨(Below.refl _ _).alloc (Nat.le_refl _) _, by simp⟩
  case assign =>
    intro lp x V K hK
    unfold encN
    gi_wp2
    exact hK
  case body =>
    rintro lp pre u rest bb V hlp ⟨r0, hr0⟩ hbb hx ⟨hmt, htu⟩ hcu
    have htu0 := htu
    have HMt := Lib.hid hmt
    have HTu := Lib.hid htu
    have cs := turn_cell htu hcs hsO
    have cn := turn_cell htu hcn hnO
    have hub : u < N := grp_lt HG2.out (by rw [hx]; simp)
    clear hmt htu
    gi_wp2_with (first | (refine ⟨trivial, ?_⟩; gi_at_call 28; refine (CallsIn.inRound lp (callsIn_wide.2 (HOth.out _))).mono ?_; rintro e w' ⟨rfl, rfl⟩))
    have cr := turn_cell htu0 hcr hrO
    have cw := turn_cell htu0 hcw hwO
    have hbO : ¬ MtO N rs bb := fun hh => by have := HO.out _ hh; omega
    clear htu0
    refine range_in hr0 (by decide) (gf := 39) (recv := #[.int .u32 (othG N g : Int)]) rfl (enters_of Tryd.func39 (by kernel_rfl) rfl) encN (grpN (othG N g))
      (fun pre2 V2 => MtAt N R rs (minF F wt (fun x y => pairD pre (grpN (othG N g)) x y || pairD [u] pre2 x y)) V2 ∧ Turn (MtO N rs) V V2)
      (OwnFrom.and (mt_own N R rs (fun pre2 => minF F wt (fun x y => pairD pre (grpN (othG N g)) x y || pairD [u] pre2 x y)) _) (turn_own V (Nat.le_refl _)))
      ⟨HMt.out.congr (fun x y _ _ => minF_congr F wt (show pairD pre (grpN (othG N g)) x y = (pairD pre (grpN (othG N g)) x y || pairD [u] [] x y) by rw [show pairD [u] [] x y = false by unfold pairD; simp, Bool.or_false])), Turn.refl _ _⟩ ?hit2
      (fun v => { tmps := #[.int .u32 (g : Int), .int .i64 wt, .pointer (some ⟨Bn, 0, none⟩), .pointer (some ⟨Br, 0, none⟩), .pointer (some ⟨S0, 0, none⟩), .pointer (some ⟨S0 + 1, 0, none⟩), .pointer (some ⟨bb, 0, none⟩), .int .i64 (v : Int), .int .u32 (g : Int), .func (.func 39) #[.int .u32 (g : Int)] #[], .int .i64 (u : Int), .int .u32 (g : Int), .int .i64 (N : Int), .int .u32 (othG N g : Int), .func (.func 39) #[.int .u32 (othG N g : Int)] #[], .int .i64 (v : Int), undef, undef, undef, undef, undef, undef, undef, undef, undef, undef, undef, undef, undef, undef, undef, undef, undef, undef, undef, undef, undef, undef, undef, undef, undef, undef, undef, undef], defers := [] }) ?assign2 ?body2 ?done2
    case hit2 =>
      intro lq J V2 hJ hY h0
      exact each_in 2 (by decide) lq (othG N g) ho32 J (fun ys V3 hj j hjl => turn_cell (hJ _ _ hj).2 (turn_cell HTu.out (HTab.out j hjl) hTO) hTO) hY V2 h0
    case assign2 =>
      intro lq x V2 K hK
      gi_wp2
      exact hK
    case body2 =>
      rintro lq pre2 v rest2 V2 hx2 ⟨hmt2, htu2⟩
      have hvb : v < N := grp_lt (oth_lt (g := g)) (by rw [hx2]; simp)
      have HMt2 := Lib.hid hmt2
      have HTu2 := Lib.hid htu2
      have dr := turn_cell htu2 cr hrO
      have dw := turn_cell htu2 cw hwO
      have du := turn_cell htu2 hcu hbO
      have dR := hmt2.row hub
      obtain ⟨df, dff⟩ := hmt2.cell hub hvb
      obtain ⟨f, hf⟩ : ∃ f, minF F wt (fun x y => pairD pre (grpN (othG N g)) x y || pairD [u] pre2 x y) u v = f := ⟨_, rfl⟩
      obtain ⟨z, hz, hz2⟩ : ∃ z, min f wt = z ∧ (if wt < f then wt else f) = z := ⟨_, rfl, by split <;> omega⟩
      rw [hf] at df
      obtain ⟨V3, hV3⟩ : ∃ V3 : World, V3 = { V2 with drawn := V2.drawn + 1 } := ⟨_, rfl⟩
      have e0 : V3.heap = V2.heap := by rw [hV3]
      have er : V3.cell? ⟨Br, 0, none⟩ = some (.slice (some ⟨R, 0, none⟩) N N) := by rw [hV3]; exact dr
      have ew : V3.cell? ⟨S0 + 1, 0, none⟩ = some (.int .i64 wt) := by rw [hV3]; exact dw
      have eu : V3.cell? ⟨bb, 0, none⟩ = some (.int .i64 (u : Int)) := by rw [hV3]; exact du
      have eR : V3.cell? ⟨R, u, none⟩ = some (.slice (some ⟨rs u, 0, none⟩) N N) := by rw [hV3]; exact dR
      have ef : V3.cell? ⟨rs u, v, none⟩ = some (.int .i64 f) := by rw [hV3]; exact df
      have eff : V3.frozen? ⟨rs u, v, none⟩ = false := by rw [hV3]; exact dff
      have i0 : (0 : Int) ≤ (u : Int) := by omega
      have i1 : (u : Int) < (N : Int) := by omega
      have i2 : (0 : Int) ≤ (v : Int) := by omega
      have i3 : (v : Int) < (N : Int) := by omega
      gi_wp2_with fail
      refine region_round 15 [.slice (some ⟨R, 0, none⟩) N N, .int .i64 (u : Int), .pointer (some ⟨R, u, none⟩), .slice (some ⟨rs u, 0, none⟩) N N, .int .i64 (v : Int), .slice (some ⟨R, 0, none⟩) N N, .int .i64 (u : Int), .pointer (some ⟨R, u, none⟩), .slice (some ⟨rs u, 0, none⟩) N N, .int .i64 (v : Int), .pointer (some ⟨rs u, v, none⟩), .int .i64 f, .int .i64 wt, .int .i64 z, .pointer (some ⟨rs u, v, none⟩)] { tmps := #[.int .u32 (g : Int), .int .i64 wt, .pointer (some ⟨Bn, 0, none⟩), .pointer (some ⟨Br, 0, none⟩), .pointer (some ⟨S0, 0, none⟩), .pointer (some ⟨S0 + 1, 0, none⟩), .pointer (some ⟨bb, 0, none⟩), .int .i64 (v : Int), .int .u32 (g : Int), .func (.func 39) #[.int .u32 (g : Int)] #[], .int .i64 (u : Int), .int .u32 (g : Int), .int .i64 (N : Int), .int .u32 (othG N g : Int), .func (.func 39) #[.int .u32 (othG N g : Int)] #[], .int .i64 (v : Int), .slice (some ⟨R, 0, none⟩) N N, .int .i64 (u : Int), .pointer (some ⟨R, u, none⟩), .slice (some ⟨rs u, 0, none⟩) N N, .int .i64 (v : Int), .slice (some ⟨R, 0, none⟩) N N, .int .i64 (u : Int), .pointer (some ⟨R, u, none⟩), .slice (some ⟨rs u, 0, none⟩) N N, .int .i64 (v : Int), .pointer (some ⟨rs u, v, none⟩), .int .i64 f, .int .i64 wt, .int .i64 z, .pointer (some ⟨rs u, v, none⟩), undef, undef, undef, undef, undef, undef, undef, undef, undef, undef, undef, undef, undef], defers := [] } (by kernel_rfl) ?ck5 ?act5 ?ops5 ?tail5
      case ck5 => kernel_rfl
      case act5 => kernel_rfl
      case ops5 =>
        rw [← hV3]
        refine OpsOk.cons (d := 16) rfl (by kernel_rfl) (by go_simp) ?_
        refine OpsOk.cons (d := 17) rfl (by kernel_rfl) (by go_simp) ?_
        refine OpsOk.cons (d := 18) rfl (by kernel_rfl) (by go_simp) ?_
        refine OpsOk.cons (d := 19) rfl (by kernel_rfl) (by go_simp) ?_
        refine OpsOk.cons (d := 20) rfl (by kernel_rfl) (by go_simp) ?_
        refine OpsOk.cons (d := 21) rfl (by kernel_rfl) (by go_simp) ?_
        refine OpsOk.cons (d := 22) rfl (by kernel_rfl) (by go_simp) ?_
        refine OpsOk.cons (d := 23) rfl (by kernel_rfl) (by go_simp) ?_
        refine OpsOk.cons (d := 24) rfl (by kernel_rfl) (by go_simp) ?_
        refine OpsOk.cons (d := 25) rfl (by kernel_rfl) (by go_simp) ?_
        refine OpsOk.cons (d := 26) rfl (by kernel_rfl) (by go_simp) ?_
        refine OpsOk.cons (d := 27) rfl (by kernel_rfl) (by go_simp) ?_
        refine OpsOk.cons (d := 28) rfl (by kernel_rfl) (by go_simp) ?_
        refine OpsOk.cons (d := 29) rfl (by kernel_rfl) (by go_simp) ?_
        refine OpsOk.cons (d := 30) rfl (by kernel_rfl) (by go_simp) ?_
        exact OpsOk.nil
      case tail5 =>
        rw [← hV3]
        intro o ho
        cases ho
        have HV3 := Lib.hid hV3
        clear hV3 e0
        gi_wp2_with fail
        have hm3 : MtAt N R rs (minF F wt (fun x y => pairD pre (grpN (othG N g)) x y || pairD [u] pre2 x y)) V3 := by rw [HV3.out]; exact HMt2.out
        have hm4 := hm3.put hub hvb z
        have ht3 : Turn (MtO N rs) V V3 := by rw [HV3.out]; exact HTu2.out
        have ht4 : Turn (MtO N rs) V (V3.setCell ⟨rs u, v, none⟩ (.int .i64 z)) := ht3.trans (Turn.cell V3 v (.int .i64 z) ⟨u, hub, rfl⟩) (fun _ h => Or.inl h)
        have ht24 : Turn (MtO N rs) V2 (V3.setCell ⟨rs u, v, none⟩ (.int .i64 z)) := (show Turn (MtO N rs) V2 V3 by rw [HV3.out]; exact (Turn.refl _ V2).drawn 1).trans (Turn.cell V3 v (.int .i64 z) ⟨u, hub, rfl⟩) (fun _ h => Or.inl h)
        clear er ew eu eR ef eff dr dw du dR df dff hm3 ht3
        generalize V3.setCell ⟨rs u, v, none⟩ (.int .i64 z) = V4 at *
        have er := turn_cell ht4 cr hrO
        have eu := turn_cell ht4 hcu hbO
        have eR := hm4.row hub
        have eQ := hm4.row hvb
        have ez := (hm4.cell hub hvb).1
        have eww := (hm4.cell hvb hub)
        rw [show updM (minF F wt (fun x y => pairD pre (grpN (othG N g)) x y || pairD [u] pre2 x y)) u v z u v = z from if_pos ⟨rfl, rfl⟩] at ez
        obtain ⟨edf, edff⟩ := eww
        obtain ⟨y0, hy0⟩ : ∃ y0, updM (minF F wt (fun x y => pairD pre (grpN (othG N g)) x y || pairD [u] pre2 x y)) u v z v u = y0 := ⟨_, rfl⟩
        rw [hy0] at edf
        have HM4 := Lib.hid hm4
        have HT4 := Lib.hid ht4
        have HT24 := Lib.hid ht24
        clear hm4 ht4 ht24
        obtain ⟨V5, hV5⟩ : ∃ V5 : World, V5 = { V4 with drawn := V4.drawn + 1 } := ⟨_, rfl⟩
        have gr : V5.cell? ⟨Br, 0, none⟩ = some (.slice (some ⟨R, 0, none⟩) N N) := by rw [hV5]; exact er
        have gu : V5.cell? ⟨bb, 0, none⟩ = some (.int .i64 (u : Int)) := by rw [hV5]; exact eu
        have gR : V5.cell? ⟨R, u, none⟩ = some (.slice (some ⟨rs u, 0, none⟩) N N) := by rw [hV5]; exact eR
        have gQ : V5.cell? ⟨R, v, none⟩ = some (.slice (some ⟨rs v, 0, none⟩) N N) := by rw [hV5]; exact eQ
        have gz : V5.cell? ⟨rs u, v, none⟩ = some (.int .i64 z) := by rw [hV5]; exact ez
        have gd : V5.cell? ⟨rs v, u, none⟩ = some (.int .i64 y0) := by rw [hV5]; exact edf
        have gdf : V5.frozen? ⟨rs v, u, none⟩ = false := by rw [hV5]; exact edff
        refine region_round 13 [.slice (some ⟨R, 0, none⟩) N N, .int .i64 (v : Int), .pointer (some ⟨R, v, none⟩), .slice (some ⟨rs v, 0, none⟩) N N, .int .i64 (u : Int), .slice (some ⟨R, 0, none⟩) N N, .int .i64 (u : Int), .pointer (some ⟨R, u, none⟩), .slice (some ⟨rs u, 0, none⟩) N N, .int .i64 (v : Int), .pointer (some ⟨rs u, v, none⟩), .int .i64 z, .pointer (some ⟨rs v, u, none⟩)] { tmps := #[.int .u32 (g : Int), .int .i64 wt, .pointer (some ⟨Bn, 0, none⟩), .pointer (some ⟨Br, 0, none⟩), .pointer (some ⟨S0, 0, none⟩), .pointer (some ⟨S0 + 1, 0, none⟩), .pointer (some ⟨bb, 0, none⟩), .int .i64 (v : Int), .int .u32 (g : Int), .func (.func 39) #[.int .u32 (g : Int)] #[], .int .i64 (u : Int), .int .u32 (g : Int), .int .i64 (N : Int), .int .u32 (othG N g : Int), .func (.func 39) #[.int .u32 (othG N g : Int)] #[], .int .i64 (v : Int), .slice (some ⟨R, 0, none⟩) N N, .int .i64 (u : Int), .pointer (some ⟨R, u, none⟩), .slice (some ⟨rs u, 0, none⟩) N N, .int .i64 (v : Int), .slice (some ⟨R, 0, none⟩) N N, .int .i64 (u : Int), .pointer (some ⟨R, u, none⟩), .slice (some ⟨rs u, 0, none⟩) N N, .int .i64 (v : Int), .pointer (some ⟨rs u, v, none⟩), .int .i64 f, .int .i64 wt, .int .i64 z, .pointer (some ⟨rs u, v, none⟩), .slice (some ⟨R, 0, none⟩) N N, .int .i64 (v : Int), .pointer (some ⟨R, v, none⟩), .slice (some ⟨rs v, 0, none⟩) N N, .int .i64 (u : Int), .slice (some ⟨R, 0, none⟩) N N, .int .i64 (u : Int), .pointer (some ⟨R, u, none⟩), .slice (some ⟨rs u, 0, none⟩) N N, .int .i64 (v : Int), .pointer (some ⟨rs u, v, none⟩), .int .i64 z, .pointer (some ⟨rs v, u, none⟩)], defers := [] } (by kernel_rfl) (by kernel_rfl) (by kernel_rfl) ?ops6 ?tail6
        case ops6 =>
          rw [← hV5]
          refine OpsOk.cons (d := 31) rfl (by kernel_rfl) (by go_simp) ?_
          refine OpsOk.cons (d := 32) rfl (by kernel_rfl) (by go_simp) ?_
          refine OpsOk.cons (d := 33) rfl (by kernel_rfl) (by go_simp) ?_
          refine OpsOk.cons (d := 34) rfl (by kernel_rfl) (by go_simp) ?_
          refine OpsOk.cons (d := 35) rfl (by kernel_rfl) (by go_simp) ?_
          refine OpsOk.cons (d := 36) rfl (by kernel_rfl) (by go_simp) ?_
          refine OpsOk.cons (d := 37) rfl (by kernel_rfl) (by go_simp) ?_
          refine OpsOk.cons (d := 38) rfl (by kernel_rfl) (by go_simp) ?_
          refine OpsOk.cons (d := 39) rfl (by kernel_rfl) (by go_simp) ?_
          refine OpsOk.cons (d := 40) rfl (by kernel_rfl) (by go_simp) ?_
          refine OpsOk.cons (d := 41) rfl (by kernel_rfl) (by go_simp) ?_
          refine OpsOk.cons (d := 42) rfl (by kernel_rfl) (by go_simp) ?_
          refine OpsOk.cons (d := 43) rfl (by kernel_rfl) (by go_simp) ?_
          exact OpsOk.nil
        case tail6 =>
          rw [← hV5]
          intro o ho
          cases ho
          have HV5 := Lib.hid hV5
          clear hV5
          have hm5 : MtAt N R rs (updM (minF F wt (fun x y => pairD pre (grpN (othG N g)) x y || pairD [u] pre2 x y)) u v z) V5 := by rw [HV5.out]; exact HM4.out
          have ht5 : Turn (MtO N rs) V V5 := by rw [HV5.out]; exact HT4.out
          have hm6 := hm5.put hvb hub z
          have ht6 : Turn (MtO N rs) V (V5.setCell ⟨rs v, u, none⟩ (.int .i64 z)) := ht5.trans (Turn.cell V5 u (.int .i64 z) ⟨v, hvb, rfl⟩) (fun _ h => Or.inl h)
          have ht26 : Turn (MtO N rs) V2 (V5.setCell ⟨rs v, u, none⟩ (.int .i64 z)) := (show Turn (MtO N rs) V2 V5 by rw [HV5.out]; exact HT24.out.drawn 1).trans (Turn.cell V5 u (.int .i64 z) ⟨v, hvb, rfl⟩) (fun _ h => Or.inl h)
          have HM6 := Lib.hid hm6
          have HT6 := Lib.hid ht6
          have HT26 := Lib.hid ht26
          clear hm5 ht5 hm6 ht6 ht26
          gi_wp2
          refine ⟨keeps_turn HT26.out (fun k hk => ?_), ?_, HT6.out⟩
          · have := HO.out k hk
            have := HTu.out.size
            omega
          · refine HM6.out.congr fun x y _ _ => ?_
            rw [min_step hF wt _ u v z (by rw [hf, hz])]
            refine minF_congr F wt ?_
            rw [pair_snoc, Bool.or_assoc]
    case done2 =>
      rintro V2 ⟨hmt2, htu2⟩
      refine ⟨keeps_turn htu2 (fun k hk => ?_), hmt2.congr fun x y _ _ => minF_congr F wt ?_, HTu.out.trans htu2 (fun _ h => Or.inl h)⟩
      · have := HO.out k hk
        omega
      · rw [pair_left]
  case done =>
    rintro D V hD ⟨hmt, htu⟩ hK
    have HMt := Lib.hid hmt
    have HTu := Lib.hid htu
    clear hmt htu
    gi_wp2
    refine ⟨by simp, .inl ⟨_, _, rfl, run_takeDeferred hK, ?_⟩⟩
    have hm := (mt_own N R rs (fun _ : Unit => minF F wt (pairD (grpN g) (grpN (othG N g)))) 0).putObj (s := ()) (.deferred none) HMt.out (Nat.zero_le _) hK rfl
    have ht := (turn_own (β := Unit) (O := MtO N rs) W1 (Nat.le_refl _)).putObj (s := ()) (.deferred none) HTu.out hD hK rfl
    have hb := HB.out
    rw [← hSE] at hb
    exact ⟨_, results_none rfl _ _ _, ⟨_, rfl⟩, hm, (Turn.ofBelow hb).trans ht (fun _ h => Or.inl h)⟩
end Go.Proofs.YtceejjgmepaonaaDoor.Bg
