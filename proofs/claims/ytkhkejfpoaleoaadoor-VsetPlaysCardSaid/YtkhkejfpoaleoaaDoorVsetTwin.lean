/- A set's twin; whether two sets are the same; which vertices a set parts; the set of a list. -/
import Derived.Test.YtkhkejfpoaleoaaDoorVsetOther
import Derived.Laws.IdiomCopy
namespace Go.Proofs.YtkhkejfpoaleoaaDoor
open Go.RowKit Go.ChangeShapes VsetPure
theorem grown_cells (b : Nat) : ∀ (vs : List Value) (o : Nat) (w : World), w.grownBy (w.setCells b o vs) (some b)
  | [], _, w => grown_refl w _
  | v :: r, o, w => grown_trans (grown_cell w b o v) (grown_cells b r (o + 1) _)
theorem two_cells {b g : Nat} {w : World} {u v : Value} (h : TwoAt b w u v) (hn : b ≠ g) (o : Nat) (vs : List Value) : TwoAt b (w.setCells g o vs) u v :=
  two_past h (grown_cells g vs o w) (fun e => hn (Option.some.inj e))
theorem row_cells {g : Nat} {w : World} {us vs : List Value} (h : RowIs g w us) (hl : vs.length = us.length) : RowIs g (w.setCells g 0 vs) vs := by
  intro i hi
  have h1 := World.cell?_setCells_in g vs 0 w (fun j hj => by rw [Nat.zero_add, (h j (by omega)).1]; rfl) i hi
  rw [Nat.zero_add] at h1
  exact ⟨h1, by rw [World.frozen?_setCells]; exact (h i (by omega)).2⟩
set_option maxHeartbeats 1000000 in
theorem twin_any (b g n : Nat) (p : Nat → Bool) (w : World) (h : SetAt b g w n p) :
    Calls Tryd.prog 15 #[.pointer (some ⟨b, 0, none⟩)] w fun e w' => e = .returned (.pointer (some ⟨w.heap.size + 1, 0, none⟩)) ∧ Below w.heap.size w w' ∧ SetAt (w.heap.size + 1) w.heap.size w' n p := by
  have hl := h.lt
  obtain ⟨a1, a2, a3, a4, ws, hw, hlen, hp, ht, hr⟩ := h
  have c0 := ht.1
  have HT := Lib.hid ht
  have HR := Lib.hid hr
  have HW := Lib.hid hw
  have HP := Lib.hid hp
  have HL := Lib.hid hlen
  have H4 := Lib.hid a4
  clear ht hr hw hp hlen a4 a3
  go_enter Tryd.func15, Tryd.ntmps15
  go_wp2_with (first | (go_at_call 7; refine (new_any (n : Int) (by omega) (by omega) w).mono ?_; rintro e w1 ⟨rfl, hb1, hs1⟩; rw [roomN_of n a1] at hs1; have HB1 := Lib.hid hb1; have HS1 := Lib.hid hs1; clear hb1 hs1))
  obtain ⟨-, n1, g3, -, vs, v1, v2, v3, v4, v5⟩ := HS1.out
  have e : vs.length = ws.length := v2.trans HL.out.symm
  have hd1 := below_drewN (Below.refl w1.heap.size w1) 1
  have t1 := v4.on hd1 v4.lt
  rw [e] at t1
  have r1 := v5.on hd1 g3
  have t2 := (HT.out.on HB1.out hl.1).on hd1 (Nat.lt_of_lt_of_le hl.1 HB1.out.size)
  have r2 := (HR.out.on HB1.out hl.2).on hd1 (Nat.lt_of_lt_of_le hl.2 HB1.out.size)
  have d1 := t1.2.1
  have d2 := t2.2.1
  have hcopy : ∀ ty, (Builtin.copy_ #[49, 49] ty #[.slice (some ⟨w.heap.size, 0, none⟩) ws.length ws.length, .slice (some ⟨g, 0, none⟩) ws.length ws.length]).run Tryd.prog (w1.drewN 1) = .ok (goInt ws.length) ((w1.drewN 1).setCells w.heap.size 0 (ws.map encW)) := by
    intro ty
    have := run_copy_cells (P := Tryd.prog) (w1.drewN 1) 49 49 ty 53 w.heap.size 0 ws.length ws.length ⟨g, 0, none⟩ ws.length ws.length (ws.map encW) Tryd.underlying49 (by kernel_rfl) (by simp)
      (fun j v hv => by
        have hj : j < (ws.map encW).length := (List.getElem?_eq_some_iff.1 hv).1
        rw [addr_add, Nat.zero_add, (r2 j hj).1, ← List.getElem?_eq_getElem hj]; exact hv)
      (fun j hj => by rw [Nat.zero_add, (r1 j (by rw [List.length_map, e]; rwa [List.length_map] at hj)).1]; rfl)
      (fun j hj => by rw [Nat.zero_add]; exact (r1 j (by rw [List.length_map, e]; rwa [List.length_map] at hj)).2)
      (fun v hv => by obtain ⟨x, -, rfl⟩ := List.mem_map.1 hv; rfl)
    rw [List.length_map] at this
    exact this
  have hend : Hid (SetAt (w.heap.size + 1) w.heap.size ((w1.drewN 1).setCells w.heap.size 0 (ws.map encW)) n p) :=
    Lib.hid ⟨a1, n1, Nat.lt_of_lt_of_le g3 (grown_cells w.heap.size (ws.map encW) 0 (w1.drewN 1)).size, H4.out, ws, HW.out, HL.out, HP.out, two_cells t1 n1 _ _, row_cells r1 (by simp [e])⟩
  have hbel : Hid (Below w.heap.size w ((w1.drewN 1).setCells w.heap.size 0 (ws.map encW))) :=
    Lib.hid ((below_drewN HB1.out 1).trans (below_grown (grown_cells _ _ _ _) (Nat.le_refl _) HB1.out.size))
  clear v1 v2 v3 v4 v5 e hd1 t1 r1 t2 r2 g3 n1 HB1 HS1 hl
  refine wp_region_still_tail 8 (by kernel_rfl) (by kernel_rfl) ?_
  change wpStill _ _ (w1.drewN 1) _ _ _
  change wpStill _ _ _ (fun a' => wpList _ _ _ _ _ (w1.drewN 1)) _ _
  generalize w1.drewN 1 = W at *
  simp only [List.take_succ_cons, List.take_zero, List.drop_succ_cons, List.drop_zero]
  repeat still_step
  refine wpStill_nil ?_
  go_wp2
  go_ret
  exact ⟨rfl, hbel.out, hend.out⟩
end Go.Proofs.YtkhkejfpoaleoaaDoor
