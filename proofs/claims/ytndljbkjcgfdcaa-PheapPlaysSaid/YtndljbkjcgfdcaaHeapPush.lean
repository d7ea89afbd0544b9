/- Contract of the heap's Push, at every argument. -/
import Derived.Test.YtndljbkjcgfdcaaHeapAsk
import Derived.Deep.RegionHeld3
namespace Go.Proofs.Ytndljbkjcgfdcaa
open Go.RowKit Go.ChangeShapes NdPure HpPure HeapPure
/-- The heap tells A; it was hung no more often than it has cells since. -/
def Goes (O : Nat → Prop) (B : Bl) (w0 : World) (A : List (Option Int)) (l : Int) (W : World) : Prop := ∃ l', l ≤ l' ∧ l' ≤ l + 4097 ∧ HpIs O B w0 A l' W
section
variable {O : Nat → Prop} {B : Bl} {w0 : World} {A : List (Option Int)} {l : Int}
theorem HpIs.goes {W : World} (h : HpIs O B w0 A l W) : Goes O B w0 A l W := ⟨l, Int.le_refl _, by omega, h⟩
theorem goes_mk {W : World} {M : Hp} (hs : Hs O B w0 M W) (hg : GoodH M A) (h0 : 0 ≤ l) (h1 : l ≤ M.links) (h2 : M.links ≤ l + 4097) : Goes O B w0 A l W := ⟨M.links, h1, h2, M, hs, hg, rfl, by omega⟩
theorem meldL_le (a c : Int) : 0 ≤ meldL a c ∧ meldL a c ≤ 1 := by
  unfold meldL
  split
  · omega
  · split <;> omega
set_option maxRecDepth 100000 in
set_option maxHeartbeats 4000000 in
theorem push_run (W : World) (v key : Int) (h : HpIs O B w0 A l W) (hl : l ≤ 1000000000000) :
    Calls Try.prog 16 #[.pointer (some ⟨B.b, 0, none⟩), .int .i64 v, .int .i64 key] W fun e W' => e = .returned (.bool (pushB A v)) ∧ Goes O B w0 (pushA A v key) l W' := by
  have HI := Lib.hid h
  have hno : pushB A v = false → Goes O B w0 (pushA A v key) l W := fun e => by unfold pushA; rw [e]; exact h.goes
  rcases three A v with h0 | h0 | ⟨u, rfl, hu, h0 | ⟨k, h0⟩⟩
  · have HF := Lib.hid (push_low (A := A) h0)
    have HG := Lib.hid (hno (push_low h0))
    clear h hno
    go_enter Try.func16, Try.ntmps16
    go_wp2
    go_ret
    exact ⟨bool_ret HF.out.symm, HG.out⟩
  · have HF := Lib.hid (push_past (A := A) h0)
    have HG := Lib.hid (hno (push_past h0))
    have a1 : ¬ v < 0 := by omega
    have a2 : v ≥ (A.length : Int) := by omega
    clear h hno h0
    go_enter Try.func16, Try.ntmps16
    go_wp2_with (first | (go_at_call 9; refine (room_run _ HI.out).mono ?_; rintro e w' ⟨rfl, rfl⟩))
    go_ret
    exact ⟨bool_ret HF.out.symm, HG.out⟩
  · obtain ⟨M, hs, hg, hml, h00⟩ := h
    have HF := Lib.hid (push_yes h0)
    have HN := Lib.hid (in_none h0)
    have HA : Hid (pushA A (u : Int) key = A.set u (some key)) := Lib.hid (by unfold pushA; rw [push_yes h0, if_pos rfl, Int.toNat_natCast])
    have hN := hg.c.lenC
    have hY := hg.c.lenY
    obtain ⟨q1, q2, q3⟩ := hg.push (by rw [← hN]; exact hs.good.1) h0 key
    rw [← hN] at q1 q2 q3
    have huC : u < M.C.length := by omega
    have huY : u < M.Y.length := by omega
    generalize hc : giveN M.C.length M.S = c at *
    have HC := Lib.hid hc
    have HS := Lib.hid (hs.drawn 1)
    have HM : Hid (∀ w3, Hs O B w0 (M.withS (plantS M.C.length M.S (u : Int))) w3 → Hs O B w0 ⟨plantS M.C.length M.S (u : Int), M.links, M.C.set u c, M.Y, M.root⟩ (w3.setCell ⟨B.gC, u, none⟩ (.int .i64 c))) := Lib.hid fun w3 h3 => h3.layC huC c
    have HM2 : Hid (∀ w3, Hs O B w0 ⟨plantS M.C.length M.S (u : Int), M.links, M.C.set u c, M.Y, M.root⟩ w3 → Hs O B w0 ⟨plantS M.C.length M.S (u : Int), M.links, M.C.set u c, M.Y.set u key, M.root⟩ (w3.setCell ⟨B.gK, u, none⟩ (.int .i64 key))) := Lib.hid fun w3 h3 => h3.layY huY key
    have HD : Hid (∀ w3, Hs O B w0 ⟨plantS M.C.length M.S (u : Int), M.links, M.C.set u c, M.Y, M.root⟩ w3 → (w3.cell? ⟨B.b, 3, none⟩ = some (.slice (some ⟨B.gK, 0, none⟩) M.C.length M.C.length)) ∧ ((∃ z : Int, w3.cell? ⟨B.gK, u, none⟩ = some (.int .i64 z)) ∧ w3.frozen? ⟨B.gK, u, none⟩ = false) ∧ B.b < w3.heap.size ∧ B.gK < w3.heap.size) := Lib.hid fun w3 h3 => by
      obtain ⟨⟨-, -, -, d3, -⟩, -, ⟨e1, -, e3⟩, -⟩ := h3.cells
      have := h3.getY (i := u) huY
      simp only [List.length_set] at d3
      exact ⟨d3, ⟨⟨_, this.1⟩, this.2⟩, e1, e3⟩
    have HE : Hid (∀ w3, Hs O B w0 ⟨plantS M.C.length M.S (u : Int), M.links, M.C.set u c, M.Y.set u key, M.root⟩ w3 → (w3.cell? ⟨B.b, 2, none⟩ = some (.slice (some ⟨B.gC, 0, none⟩) M.C.length M.C.length)) ∧ w3.cell? ⟨B.gC, u, none⟩ = some (.int .i64 c) ∧ B.b < w3.heap.size ∧ B.gC < w3.heap.size) := Lib.hid fun w3 h3 => by
      obtain ⟨⟨-, -, d2, -⟩, -, ⟨e1, e2, -⟩, -⟩ := h3.cells
      have := (h3.getC (i := u) (by simpa using huC)).1
      simp only [List.length_set, List.getElem_set_self] at d2 this
      exact ⟨d2, this, e1, e2⟩
    have HGo : Hid (∀ w3, Hs O B w0 (Hp.joined ⟨plantS M.C.length M.S (u : Int), M.links, M.C.set u c, M.Y.set u key, M.root⟩ c) w3 → Goes O B w0 (A.set u (some key)) l w3) := Lib.hid fun w3 h3 => by
      have := meldL_le M.root c
      exact goes_mk h3 q3 h00 (by show l ≤ M.links + meldL M.root c; omega) (by show M.links + meldL M.root c ≤ l + 4097; omega)
    have HQ' : Hid (M.root ≠ -1 → c ≠ -1 → TopsIn (M.C.set u c).length (plantS M.C.length M.S (u : Int)) M.root c) := Lib.hid fun e1 e2 => by rw [List.length_set]; exact ⟨q2 _ (q1 e1 e2).1, q2 _ (q1 e1 e2).2⟩
    have HL0 : Hid (0 ≤ M.links) := Lib.hid (by omega)
    have HL1 : Hid (M.links ≤ 4611686018427387904) := Lib.hid (by omega)
    obtain ⟨⟨-, -, c2, -, -⟩, -, ⟨hb, hgC, -⟩, n1, n2, n3, n4⟩ := hs.cells
    have c2' : W.drew.cell? ⟨B.b, 2, none⟩ = some (.slice (some ⟨B.gC, 0, none⟩) M.C.length M.C.length) := c2
    have a0 : (0 : Int) ≤ (u : Int) := by omega
    have a1 : ¬ (u : Int) < 0 := by omega
    have a2 : ¬ (u : Int) ≥ (M.C.length : Int) := by omega
    have a3 : (u : Int) < (M.C.length : Int) := by omega
    have HNN : Hid ((A.length : Int) = (M.C.length : Int)) := Lib.hid (by omega)
    clear hs hg hno h0 q1 q2 q3 huC huY hN hY hu hc c2
    go_enter Try.func16, Try.ntmps16
    go_wp2_with (first | (go_at_call 9; refine (room_run _ HI.out).mono ?_; rintro e w' ⟨rfl, rfl⟩; rw [HNN.out]) | (go_at_call 29; refine (has_run _ _ HI.out).mono ?_; rintro e w' ⟨rfl, rfl⟩; rw [HN.out]))
    go_region_held3 (fun W' => W'.cell? ⟨B.b, 2, none⟩ = some (.slice (some ⟨B.gC, 0, none⟩) M.C.length M.C.length))
      (first
        | exact c2'
        | exact d2
        | go_keep)
      (first
        | (go_at_call 30; refine (plant_run _ (u : Int) HS.out).mono ?_; rintro e w3 ⟨rfl, h3⟩; rw [HC.out]; obtain ⟨⟨-, -, d2, -⟩, -, ⟨eb, eC, -⟩, -⟩ := h3.cells; have d4 := (h3.getC (i := u) (by show u < M.C.length; omega)); have H3 := Lib.hid (HM.out _ h3); replace d2 : w3.cell? ⟨B.b, 2, none⟩ = some (.slice (some ⟨B.gC, 0, none⟩) M.C.length M.C.length) := d2; clear h3))
    clear c2' d2 d4 eb eC hb hgC
    generalize w3.setCell ⟨B.gC, u, none⟩ (.int .i64 c) = w4 at *
    obtain ⟨d3, ⟨⟨z, dz⟩, fz⟩, eb, eK⟩ := HD.out _ H3.out
    have H5 := Lib.hid (HM2.out _ H3.out)
    clear H3 HD HM2 HM HS HI HN HNN
    go_upto_region 5 with fail
    clear d3 dz fz eb eK
    generalize w4.setCell ⟨B.gK, u, none⟩ (.int .i64 key) = w5 at *
    obtain ⟨d2, dc, eb, eC⟩ := HE.out _ H5.out
    clear HE
    go_wp2_with fail
    refine (join_run _ c H5.out HL0.out HL1.out HQ'.out).mono ?_
    rintro e w6 ⟨rfl, h6⟩
    have H6 := Lib.hid (HGo.out _ h6)
    clear h6 H5 d2 dc eb eC
    go_wp2
    go_ret
    exact ⟨bool_ret HF.out.symm, by rw [HA.out]; exact H6.out⟩
  · have HF := Lib.hid (push_in (in_of h0))
    have HG := Lib.hid (hno (push_in (in_of h0)))
    have HN := Lib.hid (in_of h0)
    have a1 : ¬ (u : Int) < 0 := by omega
    have a2 : ¬ (u : Int) ≥ (A.length : Int) := by omega
    clear h hno h0 hu
    go_enter Try.func16, Try.ntmps16
    go_wp2_with (first | (go_at_call 9; refine (room_run _ HI.out).mono ?_; rintro e w' ⟨rfl, rfl⟩) | (go_at_call 29; refine (has_run _ _ HI.out).mono ?_; rintro e w' ⟨rfl, rfl⟩; rw [HN.out]))
    go_ret
    exact ⟨bool_ret HF.out.symm, HG.out⟩
end
end Go.Proofs.Ytndljbkjcgfdcaa
