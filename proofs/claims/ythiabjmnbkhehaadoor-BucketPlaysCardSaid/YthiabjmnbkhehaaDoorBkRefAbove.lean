/- Contract of the document's Above of a row of buckets. -/
import Derived.Test.YthiabjmnbkhehaaDoorBkRefPut
namespace Go.Proofs.YthiabjmnbkhehaaDoor
open Go.RowKit Go.ChangeShapes BkPure
theorem lab_snoc (E : List (Nat × Nat)) (p : Nat × Nat) (v : Int) : labD (E ++ [p]) v = if 0 ≤ labD E v then labD E v else if (p.1 : Int) = v then (p.2 : Int) else -1 := by
  induction E with
  | nil =>
    show (if (p.1 : Int) = v then (p.2 : Int) else -1) = if 0 ≤ (-1 : Int) then -1 else if (p.1 : Int) = v then (p.2 : Int) else -1
    rw [if_neg (by omega : ¬ (0 : Int) ≤ -1)]
  | cons q E ih =>
    show (if (q.1 : Int) = v then (q.2 : Int) else labD (E ++ [p]) v) = if 0 ≤ (if (q.1 : Int) = v then (q.2 : Int) else labD E v) then (if (q.1 : Int) = v then (q.2 : Int) else labD E v) else _
    by_cases h : (q.1 : Int) = v
    · rw [if_pos h, if_pos h, if_pos (by omega)]
    · rw [if_neg h, if_neg h, ih]
theorem once_take {N : Nat} {D : List (Nat × Nat)} (h : Once N D) (k : Nat) : Once N (D.take k) :=
  ⟨h.1.sublist (List.Sublist.map _ (List.take_sublist k D)), fun p hp => h.2 p (List.mem_of_mem_take hp)⟩
theorem abv_snoc {N : Nat} {E : List (Nat × Nat)} {p : Nat × Nat} (h : Once N (E ++ [p])) (l : Int) (u : Nat) : abvP (E ++ [p]) l u = if u = p.1 then decide (l < (p.2 : Int)) else abvP E l u := by
  have hno : labD E (p.1 : Int) = -1 := lab_no fun q hq e => by
    have h1 := h.1
    rw [List.map_append, List.nodup_append] at h1
    exact h1.2.2 q.1 (List.mem_map.2 ⟨q, hq, rfl⟩) p.1 (by simp) (by omega)
  unfold abvP
  rw [lab_snoc]
  by_cases e : u = p.1
  · subst e
    rw [if_pos rfl, hno, if_neg (by omega), if_pos rfl, decide_eq_true (by omega : (0 : Int) ≤ (p.2 : Int)), Bool.true_and]
  · rw [if_neg e]
    by_cases h0 : 0 ≤ labD E (u : Int)
    · rw [if_pos h0]
    · rw [if_neg h0, if_neg (by omega), decide_eq_false h0]
      simp
/-- At the head of a round: of the first k vertices those above are in. -/
def IRel (w0 : World) (C h N : Nat) (D : List (Nat × Nat)) (l : Int) (k : Nat) (w : World) : Prop :=
  k ≤ D.length ∧ Below w0.heap.size w0 w ∧ TwoAt C w (.int .i64 (N : Int)) (.slice (some ⟨h, 0, none⟩) N N) ∧ C ≠ h ∧ w0.heap.size ≤ h ∧ h < w.heap.size ∧ RowIs h w ((R9.inL N (abvP (D.take k) l)).map R9.encB)
theorem IRel.draw {w0 w : World} {C h N k : Nat} {D : List (Nat × Nat)} {l : Int} (hr : IRel w0 C h N D l k w) (n : Nat) : IRel w0 C h N D l k (w.drewN n) := by
  obtain ⟨a1, a2, a3, a5, a7, a8, a9⟩ := hr
  have hb := below_drewN (Below.refl w.heap.size w) n
  exact ⟨a1, below_drewN a2 n, a3.on hb a3.lt, a5, a7, a8, a9.on hb a8⟩
theorem IRel.yes {w0 w : World} {C h N k : Nat} {D : List (Nat × Nat)} {l : Int} {p : Nat × Nat} (hr : IRel w0 C h N D l k w) (ho : Once N D) (hp : D[k]? = some p) (hl : l < (p.2 : Int)) : IRel w0 C h N D l (k + 1) (w.setCell ⟨h, p.1, none⟩ (.bool true)) := by
  obtain ⟨a1, a2, a3, a5, a7, a8, a9⟩ := hr
  have hkl := (List.getElem?_eq_some_iff.1 hp).1
  have ht := take_at' hp
  have ho2 := once_take ho (k + 1)
  rw [ht] at ho2
  have hu : p.1 < N := (ho2.2 p (by simp)).1
  refine ⟨hkl, a2.setCell (p := ⟨h, p.1, none⟩) a7 _, two_same a3 (cell_other (by omega)), a5, a7, by simpa using a8, ?_⟩
  have := a9.set (k := p.1) (by rw [List.length_map, R9.inL_len]; exact hu) (.bool true)
  rw [R9.inL_set N _ (abvP (D.take (k + 1)) l) hu true (by rw [ht, abv_snoc ho2, if_pos rfl, decide_eq_true hl]) (fun v hv => by rw [ht, abv_snoc ho2, if_neg hv])] at this
  exact this
theorem IRel.no {w0 w : World} {C h N k : Nat} {D : List (Nat × Nat)} {l : Int} {p : Nat × Nat} (hr : IRel w0 C h N D l k w) (ho : Once N D) (hp : D[k]? = some p) (hl : ¬ l < (p.2 : Int)) : IRel w0 C h N D l (k + 1) w := by
  obtain ⟨a1, a2, a3, a5, a7, a8, a9⟩ := hr
  have hkl := (List.getElem?_eq_some_iff.1 hp).1
  have ht := take_at' hp
  have ho2 := once_take ho (k + 1)
  rw [ht] at ho2
  refine ⟨hkl, a2, a3, a5, a7, a8, ?_⟩
  have : abvP (D.take (k + 1)) l = abvP (D.take k) l := by
    funext v
    rw [ht, abv_snoc ho2]
    by_cases e : v = p.1
    · rw [if_pos e, decide_eq_false hl, e]
      have hno : labD (D.take k) (p.1 : Int) = -1 := lab_no fun q hq e => by
        have h1 := ho2.1
        rw [List.map_append, List.nodup_append] at h1
        exact h1.2.2 q.1 (List.mem_map.2 ⟨q, hq, rfl⟩) p.1 (by simp) (by omega)
      exact (abv_no hno).symm
    · rw [if_neg e]
  rw [this]
  exact a9
section
variable {T : Nat → Prop} {b N : Nat} {D : List (Nat × Nat)} {W W' : World}
set_option maxRecDepth 100000 in
set_option maxHeartbeats 4000000 in
theorem aboveR_run (W : World) (l : Int) (h : RfB T b N D W) :
    Calls Tryd.prog 25 #[.pointer (some ⟨b, 0, none⟩), .int .i64 l] W fun e W' => ∃ v, e = .returned v ∧ ListOut (R9.upP (abvP D l) N) W W' v := by
  have HR := Lib.hid h
  have hle := h.once.2.2
  have hN := h.once.1
  have HO := Lib.hid h.once.2.1
  obtain ⟨-, -, -, -, ⟨c0, -⟩, hb, -⟩ := h.cells
  have hroom : R9.roomN (N : Int) = N := R9.roomN_of N hN
  clear h
  go_enter Tryd.func25, Tryd.ntmps25
  go_wp2_with fail
  refine (R9.newRef_any (N : Int) _).mono ?_
  rintro e w1 ⟨h, rfl, hb1, hh1, hh2, hrow⟩
  rw [hroom] at hrow ⊢
  have hA2 := (Below.refl _ w1).alloc (Nat.le_refl _) (.cells #[.int .i64 (N : Int), .slice (some ⟨h, 0, none⟩) N N] 60)
  have hC := TwoAt.new w1 (.int .i64 (N : Int)) (.slice (some ⟨h, 0, none⟩) N N) 60
  have hS : Hid (IRel W w1.heap.size h N D l 0 (w1.alloc (.cells #[.int .i64 (N : Int), .slice (some ⟨h, 0, none⟩) N N] 60))) := Lib.hid
    ⟨Nat.zero_le _, hb1.trans (hA2.mono hb1.size), hC, by omega, hh1, by simp; omega, by
      have : abvP (D.take 0) l = R9.noneP := by funext v; rw [List.take_zero]; exact abv_no rfl
      rw [this]; exact hrow.on hA2 hh2⟩
  clear hA2 hC hrow hb1 hh1 hh2 c0 hb hroom
  go_wp2_with fail
  generalize (w1.alloc (.cells #[.int .i64 (N : Int), .slice (some ⟨h, 0, none⟩) N N] 60)) = W2 at *
  generalize w1.heap.size = C at *
  go_loopw [6] (fun i wr => ∃ k : Nat, i = .int .i64 k ∧ Hid (IRel W C h N D l k wr)) (fun i _ => D.length - (intOf i).toNat)
  case atStart => exact ⟨0, rfl, hS⟩
  case round =>
    obtain ⟨k, rfl, HK⟩ := hrel
    have hk := HK.out.1
    have i0 : (0 : Int) ≤ (k : Int) := by omega
    obtain ⟨q, c, q', c', ⟨c0, c1, c2⟩, hb, hat⟩ := (HR.out.keep HK.out.2.1).cells
    by_cases hlt : k < D.length
    · have i1 : (k : Int) < (D.length : Int) := by omega
      obtain ⟨g, g', rfl, rfl, ⟨hg, hg'⟩, p, hp, d0, d1⟩ := hat wr (Below.refl _ _) k hlt
      have HA := Lib.hid hat
      have HP := Lib.hid hp
      clear hat hp
      by_cases hl : l < (p.2 : Int)
      · have r1 : (p.2 : Int) > l := hl
        have hu := (HO.out.2 p (List.mem_of_getElem? HP.out)).1
        have u0 : (0 : Int) ≤ (p.1 : Int) := by omega
        have u1 : (p.1 : Int) < (N : Int) := by omega
        have HD := HK.out.draw 1
        have HN := Lib.hid (HD.yes HO.out HP.out hl)
        obtain ⟨r0, r2⟩ := HD.2.2.2.2.2.2 p.1 (by rw [List.length_map, R9.inL_len]; exact hu)
        have e0 := HD.2.2.1.1
        have e1 := HD.2.2.1.2.1
        have hh := HD.2.2.2.2.2.1
        have hCl := HD.2.2.1.lt
        have k1 : (wr.drewN 1).cell? ⟨b, 1, none⟩ = some (.slice (some ⟨g, 0, none⟩) D.length c) := c1
        have k2 : (wr.drewN 1).cell? ⟨g, k, none⟩ = some (.int .i64 (p.1 : Int)) := d0
        have k3 : b < (wr.drewN 1).heap.size := hb
        have k4 : g < (wr.drewN 1).heap.size := hg
        clear HD hl
        generalize ((R9.inL N (abvP (D.take k) l)).map R9.encB)[p.1]'(by rw [List.length_map, R9.inL_len]; exact hu) = old at *
        go_wp2_with fail
        refine wp_region_still_tail 10 (by kernel_rfl) (by kernel_rfl) ?_
        change wpStill _ _ (wr.drewN 1) _ _ _
        change wpStill _ _ _ (fun a' => wpList _ _ _ _ _ (wr.drewN 1)) _ _
        clear c0 c1 c2 hb d0 d1 hg hg' HA HK
        generalize wr.drewN 1 = V at *
        simp only [List.take_succ_cons, List.take_zero, List.drop_succ_cons, List.drop_zero]
        repeat still_step
        refine wpStill_nil ?_
        go_wp2
        go_roundw
        case rel => exact ⟨k + 1, by go_num, HN⟩
        case measure => (simp [intOf] <;> omega)
      · have r1 : ¬ (p.2 : Int) > l := hl
        have HN := Lib.hid (HK.out.no HO.out HP.out hl)
        clear hl
        generalize (p.1 : Int) = x at *
        generalize (p.2 : Int) = y at *
        go_wp2
        go_roundw
        case rel => exact ⟨k + 1, by go_num, HN⟩
        case measure => (simp [intOf] <;> omega)
    · have hke : k = D.length := by omega
      have hge : ¬ (k : Int) < (D.length : Int) := by omega
      obtain ⟨-, b2, bC, -, -, -, b9⟩ := HK.out
      rw [hke, List.take_length] at b9
      have e0 := bC.1
      have e1 := bC.2.1
      have hCl := bC.lt
      have HB := Lib.hid b2
      have HRef := Lib.hid (R9.row_ref b9)
      clear b2 bC b9 hat HK hke
      go_wp2_with fail
      refine (R9.listRef_any N hN (abvP D l) (some ⟨h, 0, none⟩) N wr HRef.out).mono ?_
      rintro e w3 ⟨q3, c3, rfl, hr3, hb3⟩
      have HF : Hid (ListOut (R9.upP (abvP D l) N) W w3 (.slice q3 (R9.upP (abvP D l) N).length c3)) := Lib.hid ⟨q3, c3, rfl, hr3, HB.out.trans (hb3.mono HB.out.size)⟩
      clear hr3 hb3
      go_wp2
      go_ret
      exact ⟨_, rfl, HF.out⟩
end
end Go.Proofs.YthiabjmnbkhehaaDoor
