/- Contract of the document's Highest of a row of buckets. -/
import Derived.Test.YthiabjmnbkhehaaDoorBkRef
namespace Go.Proofs.YthiabjmnbkhehaaDoor
open Go.RowKit Go.ChangeShapes BkPure
/-- While the first one is looked for: the result's place, and the first one so far. -/
def FirstAt (W : World) (B2 Bt : Nat) (v k : Int) (o : Bool) (wr : World) : Prop :=
  Below W.heap.size W wr ∧ (W.heap.size ≤ B2 ∧ W.heap.size ≤ Bt ∧ B2 ≠ Bt) ∧ ThreeAt B2 wr (.int .i64 0) (.int .i64 0) (.bool false) ∧ ThreeAt Bt wr (.int .i64 v) (.int .i64 k) (.bool o)
section
variable {W wr : World} {B2 Bt : Nat} {v k : Int} {o : Bool}
theorem first_start (W : World) (T : TypeId) : FirstAt W W.heap.size (W.heap.size + 1) 0 0 false ((W.alloc (.cells #[.int .i64 0, .int .i64 0, .bool false] T)).alloc (.cells #[.int .i64 0, .int .i64 0, .bool false] T)) := by
  have h1 := ThreeAt.new W (.int .i64 0) (.int .i64 0) (.bool false) T
  have b1 := (Below.refl W.heap.size W).alloc (Nat.le_refl _) (.cells #[.int .i64 0, .int .i64 0, .bool false] T)
  generalize hW : W.alloc (.cells #[.int .i64 0, .int .i64 0, .bool false] T) = W1 at *
  have s1 : W1.heap.size = W.heap.size + 1 := by rw [← hW]; simp
  have h2 := ThreeAt.new W1 (.int .i64 0) (.int .i64 0) (.bool false) T
  have b2 := (Below.refl W1.heap.size W1).alloc (Nat.le_refl _) (.cells #[.int .i64 0, .int .i64 0, .bool false] T)
  rw [s1] at h2
  exact ⟨b1.trans (b2.mono (by omega)), ⟨Nat.le_refl _, by omega, by omega⟩, h1.on b2 (by omega), h2⟩
theorem FirstAt.drawn (h : FirstAt W B2 Bt v k o wr) (n : Nat) : FirstAt W B2 Bt v k o (wr.drewN n) := by
  obtain ⟨h1, h2, h3, h4⟩ := h
  exact ⟨below_drewN h1 n, h2, three_same h3 rfl, three_same h4 rfl⟩
theorem FirstAt.set (h : FirstAt W B2 Bt v k o wr) (v' k' : Int) (o' : Bool) : FirstAt W B2 Bt v' k' o' (((wr.setCell ⟨Bt, 0, none⟩ (.int .i64 v')).setCell ⟨Bt, 1, none⟩ (.int .i64 k')).setCell ⟨Bt, 2, none⟩ (.bool o')) := by
  obtain ⟨h1, h2, h3, h4⟩ := h
  exact ⟨((h1.setCell (p := ⟨Bt, 0, none⟩) h2.2.1 _).setCell (p := ⟨Bt, 1, none⟩) h2.2.1 _).setCell (p := ⟨Bt, 2, none⟩) h2.2.1 _, h2, three_same h3 ((cell_other h2.2.2).trans ((cell_other h2.2.2).trans (cell_other h2.2.2))), h4.set _ _ _⟩
theorem FirstAt.cells (h : FirstAt W B2 Bt v k o wr) : (wr.cell? ⟨Bt, 0, none⟩ = some (.int .i64 v) ∧ wr.cell? ⟨Bt, 1, none⟩ = some (.int .i64 k) ∧ wr.cell? ⟨Bt, 2, none⟩ = some (.bool o)) ∧ (wr.frozen? ⟨Bt, 0, none⟩ = false ∧ wr.frozen? ⟨Bt, 1, none⟩ = false ∧ wr.frozen? ⟨Bt, 2, none⟩ = false) ∧
    (wr.cell? ⟨B2, 0, none⟩ = some (.int .i64 0) ∧ wr.cell? ⟨B2, 1, none⟩ = some (.int .i64 0) ∧ wr.cell? ⟨B2, 2, none⟩ = some (.bool false)) ∧ (wr.frozen? ⟨B2, 0, none⟩ = false ∧ wr.frozen? ⟨B2, 1, none⟩ = false ∧ wr.frozen? ⟨B2, 2, none⟩ = false) ∧ (Bt < wr.heap.size ∧ B2 < wr.heap.size ∧ B2 ≠ Bt ∧ Bt ≠ B2) := by
  obtain ⟨h1, h2, h3, h4⟩ := h
  exact ⟨⟨h4.1, h4.2.1, h4.2.2.1⟩, h4.2.2.2, ⟨h3.1, h3.2.1, h3.2.2.1⟩, h3.2.2.2, h4.lt, h3.lt, h2.2.2, fun e => h2.2.2 e.symm⟩
/-- The result is laid. -/
theorem FirstAt.end (h : FirstAt W B2 Bt v k o wr) (v' k' : Int) (o' : Bool) : Below W.heap.size W (((wr.setCell ⟨B2, 0, none⟩ (.int .i64 v')).setCell ⟨B2, 1, none⟩ (.int .i64 k')).setCell ⟨B2, 2, none⟩ (.bool o')) :=
  ((h.1.setCell (p := ⟨B2, 0, none⟩) h.2.1.1 _).setCell (p := ⟨B2, 1, none⟩) h.2.1.1 _).setCell (p := ⟨B2, 2, none⟩) h.2.1.1 _
end
section
variable {T : Nat → Prop} {b N : Nat} {D : List (Nat × Nat)} {W W' : World}
theorem top_take {k : Nat} {p : Nat × Nat} (h : D[k]? = some p) : topD (D.take (k + 1)) = betterD (topD (D.take k)) p := by rw [take_at' h]; exact top_snoc _ _
set_option maxRecDepth 100000 in
set_option maxHeartbeats 4000000 in
theorem highR_run (W : World) (h : RfB T b N D W) :
    Calls Tryd.prog 21 #[.pointer (some ⟨b, 0, none⟩)] W fun e W' => e = .returned (.agg #[.int .i64 (topV (topD D)), .int .i64 (topL (topD D)), .bool (topD D).isSome]) ∧ Below W.heap.size W W' := by
  have HR := Lib.hid h
  have hle := h.once.2.2
  have HS := Lib.hid (first_start W 55)
  clear h
  go_enter Tryd.func21, Tryd.ntmps21
  go_wp2_with fail
  generalize hB2 : W.heap.size = B2 at *
  have HB2 := Lib.hid hB2
  clear hB2
  generalize hBt : B2 + 1 = Bt at *
  have HBt := Lib.hid hBt
  clear hBt
  go_loopw [4] (fun i wr => ∃ k : Nat, k ≤ D.length ∧ i = .int .i64 k ∧ Hid (FirstAt W B2 Bt (topV (topD (D.take k))) (topL (topD (D.take k))) (topD (D.take k)).isSome wr)) (fun i _ => D.length - (intOf i).toNat)
  case atStart => exact ⟨0, Nat.zero_le _, rfl, HS⟩
  case round =>
    obtain ⟨k, hk, rfl, HK⟩ := hrel
    clear HS
    have i0 : (0 : Int) ≤ (k : Int) := by omega
    by_cases hlt : k < D.length
    · have i1 : (k : Int) < (D.length : Int) := by omega
      obtain ⟨⟨y0, y1, y2⟩, ⟨f0, f1, f2⟩, ⟨z0, z1, z2⟩, ⟨g0, g1, g2⟩, hBt, hB2, n1, n2⟩ := HK.out.cells
      obtain ⟨q, c, q', c', ⟨c0, c1, c2⟩, hb, hat⟩ := (HR.out.keep HK.out.1).cells
      obtain ⟨g, g', rfl, rfl, ⟨hg, hg'⟩, p, hp, d0, d1⟩ := hat wr (Below.refl _ _) k hlt
      have HN := Lib.hid (top_take hp)
      have HP := Lib.hid hp
      clear hat hp
      cases hr : topD (D.take k) with
      | none =>
        rw [hr] at HK y0 y1 y2 HN
        replace y0 : wr.cell? ⟨Bt, 0, none⟩ = some (.int .i64 0) := y0
        replace y1 : wr.cell? ⟨Bt, 1, none⟩ = some (.int .i64 0) := y1
        replace y2 : wr.cell? ⟨Bt, 2, none⟩ = some (.bool false) := y2
        have HF : Hid (topD (D.take (k + 1)) = some p) := Lib.hid (by rw [HN.out]; rfl)
        clear HN hr
        go_wp2_with fail
        go_quiet (fail)
        go_wp2_with fail
        have HK2 := Lib.hid ((HK.out.drawn nq).drawn 1)
        have HR2 := Lib.hid (HR.out.keep HK2.out.1)
        clear y0 y1 y2 f0 f1 f2 z0 z1 z2 g0 g1 g2 hBt hB2 n1 n2 c0 c1 c2 hb d0 d1 hg hg' HK
        refine wp_region_still_tail 15 (by kernel_rfl) (by kernel_rfl) ?_
        change wpStill _ _ (World.drewN (World.drewN wr nq) 1) _ _ _
        change wpStill _ _ _ (fun a' => wpList _ _ _ _ _ (World.drewN (World.drewN wr nq) 1)) _ _
        generalize World.drewN (World.drewN wr nq) 1 = V at *
        obtain ⟨⟨y0, y1, y2⟩, ⟨f0, f1, f2⟩, -, -, hBt, -⟩ := HK2.out.cells
        obtain ⟨q, c, q', c', ⟨c0, c1, c2⟩, hb, hat⟩ := HR2.out.cells
        obtain ⟨g, g', rfl, rfl, ⟨hg, hg'⟩, p', hp, d0, d1⟩ := hat V (Below.refl _ _) k hlt
        have HG : Hid (FirstAt W B2 Bt (topV (topD (D.take (k + 1)))) (topL (topD (D.take (k + 1)))) (topD (D.take (k + 1))).isSome (((V.setCell ⟨Bt, 0, none⟩ (.int .i64 (p'.1 : Int))).setCell ⟨Bt, 1, none⟩ (.int .i64 (p'.2 : Int))).setCell ⟨Bt, 2, none⟩ (.bool true))) := Lib.hid (by
          rw [HF.out, show p = p' from Option.some.inj (HP.out.symm.trans hp)]
          exact HK2.out.set _ _ _)
        clear HK2 HR2 hat hp
        simp only [List.take_succ_cons, List.take_zero, List.drop_succ_cons, List.drop_zero]
        repeat still_step
        refine wpStill_nil ?_
        go_wp2
        go_roundw
        case rel => exact ⟨k + 1, by omega, by go_num, HG⟩
        case measure => (simp [intOf] <;> omega)
      | some r =>
        obtain ⟨m, y⟩ := r
        rw [hr] at HK y0 y1 y2 HN
        replace y0 : wr.cell? ⟨Bt, 0, none⟩ = some (.int .i64 (m : Int)) := y0
        replace y1 : wr.cell? ⟨Bt, 1, none⟩ = some (.int .i64 (y : Int)) := y1
        replace y2 : wr.cell? ⟨Bt, 2, none⟩ = some (.bool true) := y2
        by_cases hx : y < p.2
        · have t3 : decide (y < p.2) = true := decide_eq_true hx
          have HF : Hid (topD (D.take (k + 1)) = some p) := Lib.hid (by rw [HN.out]; exact if_pos hx)
          clear HN hr hx
          go_wp2_with fail
          go_quiet (fail)
          go_wp2_with fail
          have HK2 := Lib.hid ((HK.out.drawn nq).drawn 1)
          have HR2 := Lib.hid (HR.out.keep HK2.out.1)
          clear y0 y1 y2 f0 f1 f2 z0 z1 z2 g0 g1 g2 hBt hB2 n1 n2 c0 c1 c2 hb d0 d1 hg hg' HK
          refine wp_region_still_tail 15 (by kernel_rfl) (by kernel_rfl) ?_
          change wpStill _ _ (World.drewN (World.drewN wr nq) 1) _ _ _
          change wpStill _ _ _ (fun a' => wpList _ _ _ _ _ (World.drewN (World.drewN wr nq) 1)) _ _
          generalize World.drewN (World.drewN wr nq) 1 = V at *
          obtain ⟨⟨y0, y1, y2⟩, ⟨f0, f1, f2⟩, -, -, hBt, -⟩ := HK2.out.cells
          obtain ⟨q, c, q', c', ⟨c0, c1, c2⟩, hb, hat⟩ := HR2.out.cells
          obtain ⟨g, g', rfl, rfl, ⟨hg, hg'⟩, p', hp, d0, d1⟩ := hat V (Below.refl _ _) k hlt
          have HG : Hid (FirstAt W B2 Bt (topV (topD (D.take (k + 1)))) (topL (topD (D.take (k + 1)))) (topD (D.take (k + 1))).isSome (((V.setCell ⟨Bt, 0, none⟩ (.int .i64 (p'.1 : Int))).setCell ⟨Bt, 1, none⟩ (.int .i64 (p'.2 : Int))).setCell ⟨Bt, 2, none⟩ (.bool true))) := Lib.hid (by
            rw [HF.out, show p = p' from Option.some.inj (HP.out.symm.trans hp)]
            exact HK2.out.set _ _ _)
          clear HK2 HR2 hat hp
          simp only [List.take_succ_cons, List.take_zero, List.drop_succ_cons, List.drop_zero]
          repeat still_step
          refine wpStill_nil ?_
          go_wp2
          go_roundw
          case rel => exact ⟨k + 1, by omega, by go_num, HG⟩
          case measure => (simp [intOf] <;> omega)
        · have t3 : decide (y < p.2) = false := decide_eq_false hx
          have HG : Hid (∀ n, FirstAt W B2 Bt (topV (topD (D.take (k + 1)))) (topL (topD (D.take (k + 1)))) (topD (D.take (k + 1))).isSome (wr.drewN n)) := Lib.hid fun n => by
            rw [show topD (D.take (k + 1)) = some (m, y) from HN.out.trans (if_neg hx)]
            exact HK.out.drawn n
          clear HK HN hr hx
          go_wp2_with fail
          go_quiet (fail)
          go_wp2
          go_roundw
          case rel => exact ⟨k + 1, by omega, by go_num, Lib.hid (HG.out _)⟩
          case measure => (simp [intOf] <;> omega)
    · have hke : k = D.length := by omega
      obtain ⟨⟨y0, y1, y2⟩, ⟨f0, f1, f2⟩, ⟨z0, z1, z2⟩, ⟨g0, g1, g2⟩, hBt, hB2, n1, n2⟩ := HK.out.cells
      obtain ⟨q, c, q', c', ⟨c0, c1, c2⟩, hb, -⟩ := (HR.out.keep HK.out.1).cells
      have HE := Lib.hid (fun a b c => HK.out.end a b c)
      have hT : topD (D.take k) = topD D := by rw [hke, List.take_length]
      have H1 : Hid (topV (topD (D.take k)) = topV (topD D)) := Lib.hid (by rw [hT])
      have H2 : Hid (topL (topD (D.take k)) = topL (topD D)) := Lib.hid (by rw [hT])
      have H3 : Hid ((topD (D.take k)).isSome = (topD D).isSome) := Lib.hid (by rw [hT])
      clear HK hke hT
      have hge : ¬ (k : Int) < (D.length : Int) := by omega
      generalize topV (topD (D.take k)) = v at *
      generalize topL (topD (D.take k)) = x at *
      generalize (topD (D.take k)).isSome = o at *
      go_wp2
      exact bodyPost_ret (v := .agg #[.int .i64 v, .int .i64 x, .bool o]) (by simp [results, Tryd.results21, go_sem, z0, z1, z2]) rfl ⟨by rw [H1.out, H2.out, H3.out], HE.out _ _ _⟩
end
end Go.Proofs.YthiabjmnbkhehaaDoor
