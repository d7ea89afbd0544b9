/- Contracts of Inverse, Of and Apply. -/
import Derived.Test.YtemcbhbobfjnkaaRankSort
import Derived.Deep.QuietTactic
import Derived.BigQuiet
namespace Go.Proofs.Ytemcbhbobfjnkaa
open Go.RowKit Go.ChangeShapes RankPure
/-- While p is gone over: where each place stands so far. -/
def InvRel (z : Int) (p : List Int) (g N : Nat) (w0 : World) (k : Nat) (w : World) : Prop :=
  k ≤ p.length ∧ Below N w0 w ∧ RowIs g w ((rowZ z p k).map encZ) ∧ g < w.heap.size ∧ N ≤ g ∧ (p.take k).Nodup ∧ ∀ x ∈ p.take k, 0 ≤ x ∧ x < (p.length : Int)
theorem InvRel.start {p : List Int} {g N : Nat} {w0 w : World} (hb : Below N w0 w) (hr : RowIs g w (fillV (fun _ => -1) p.length p.length)) (hg : g < w.heap.size) (hN : N ≤ g) : InvRel (-1) p g N w0 0 w := by
  refine ⟨Nat.zero_le _, hb, ?_, hg, hN, by simp, by simp⟩
  rw [rowZ_zero]
  rw [fillV_whole] at hr
  have e : (List.range p.length).map (fun _ => (-1 : Int)) = List.replicate p.length (-1) := by
    refine List.ext_getElem (by simp) fun i h1 h2 => ?_
    simp
  rwa [e] at hr
theorem InvRel.at {z : Int} {p : List Int} {g N k : Nat} {w0 w : World} (h : InvRel z p g N w0 k w) {j : Nat} (hj : j < p.length) :
    w.cell? ⟨g, j, none⟩ = some (.int .i64 (if (j : Int) ∈ p.take k then ((p.idxOf (j : Int) : Nat) : Int) else z)) ∧ w.frozen? ⟨g, j, none⟩ = false := by
  have := h.2.2.1 j (by rw [List.length_map, rowZ_len]; exact hj)
  rw [List.getElem_map, rowZ_get hj] at this
  exact this
theorem InvRel.step {z : Int} {p : List Int} {g N k : Nat} {w0 w : World} (h : InvRel z p g N w0 k w) (hk : k < p.length) {j : Nat} (hj : j < p.length) (e : p[k] = (j : Int)) (hn : (j : Int) ∉ p.take k) :
    InvRel z p g N w0 (k + 1) (w.setCell ⟨g, j, none⟩ (.int .i64 (k : Int))) := by
  obtain ⟨h1, h2, h3, h4, h5, h6, h7⟩ := h
  have ht : p.take (k + 1) = p.take k ++ [p[k]] := take_snoc p k hk
  refine ⟨by omega, h2.setCell (p := ⟨g, j, none⟩) h5 _, ?_, by simpa using h4, h5, ?_, ?_⟩
  · rw [rowZ_succ hk e hn, List.map_set]
    exact h3.set (by rw [List.length_map, rowZ_len]; exact hj) _
  · rw [ht, e, List.nodup_append]
    exact ⟨h6, by simp, fun x hx y hy => by rw [List.mem_singleton] at hy; subst hy; exact fun e' => hn (e' ▸ hx)⟩
  · rw [ht, e]
    intro x hx
    rcases List.mem_append.1 hx with hx | hx
    · exact h7 x hx
    · rw [List.mem_singleton] at hx; subst hx; omega
theorem InvRel.whole {z : Int} {p : List Int} {g N : Nat} {w0 w : World} (h : InvRel z p g N w0 p.length w) : OrdP p ∧ RowIs g w ((invL p).map encZ) := by
  obtain ⟨h1, h2, h3, h4, h5, h6, h7⟩ := h
  rw [List.take_length] at h6 h7
  have ho : OrdP p := ⟨h6, h7⟩
  refine ⟨ho, ?_⟩
  rwa [rowZ_whole ho] at h3
theorem not_ord_out {p : List Int} {k : Nat} (hk : k < p.length) (h : p[k] < 0 ∨ (p.length : Int) ≤ p[k]) : ¬ OrdP p := fun ho => by
  have := ho.2 p[k] (List.getElem_mem hk)
  omega
theorem not_ord_twice {p : List Int} {k : Nat} (hk : k < p.length) (h : p[k] ∈ p.take k) : ¬ OrdP p := fun ho => by
  have h1 := mem_take_lt h
  have h2 : p.idxOf p[k] = k := List.Nodup.idxOf_getElem ho.1 k hk
  omega
/-- What Inverse tells. -/
def InvOut (p : List Int) (N : Nat) (e : Ending) (w' : World) : Prop :=
  (OrdP p ∧ ∃ g, e = .returned (.tuple #[.slice (some ⟨g, 0, none⟩) p.length p.length, .bool true]) ∧ N ≤ g ∧ ReadsL encZ w'.heap.size w' (some ⟨g, 0, none⟩) (invL p)) ∨
  (¬ OrdP p ∧ e = .returned (.tuple #[.slice none 0 0, .bool false]))
set_option maxHeartbeats 1000000 in
theorem inverse_any (a : Option Addr) (c : Nat) (p : List Int) (hp : p.length ≤ 1000) (w : World) (hR : ReadsL encZ w.heap.size w a p) :
    Calls Try.prog 16 #[.slice a p.length c] w fun e w' => InvOut p w.heap.size e w' ∧ Below w.heap.size w w' := by
  have HF : Hid (Calls Try.prog 25 #[.int .i64 (p.length : Int), .func (.func 26) #[] #[]] w fun e w' => e = .returned (.slice (some ⟨w.heap.size, 0, none⟩) p.length p.length) ∧ FillRel (fun _ => -1) w p.length p.length w') :=
    Lib.hid (fill_any 26 #[] (fun _ => -1) p.length hp w (enters_of Try.func26 (by kernel_rfl) rfl)
      (fun i W hi _ => Calls.mono (none_any (i : Int) W) fun e w' ⟨h1, h2⟩ => ⟨h1, 0, h2⟩))
  have HL := Lib.hid hR
  clear hR
  go_enter Try.func16, Try.ntmps16
  go_wp2_with fail
  refine HF.out.mono ?_
  rintro e w1 ⟨rfl, -, h2, h3, h4⟩
  have HS : Hid (InvRel (-1) p w.heap.size w.heap.size w 0 w1) := Lib.hid (InvRel.start h2 h3 h4 (Nat.le_refl _))
  clear h2 h3 h4
  go_wp2
  go_loopw [12] (fun i wr => ∃ k : Nat, i = .int .i64 k ∧ Hid (InvRel (-1) p w.heap.size w.heap.size w k wr)) (fun i _ => p.length - (intOf i).toNat)
  case atStart => exact ⟨0, rfl, HS⟩
  case round =>
    obtain ⟨k, rfl, HR⟩ := hrel
    have hkn := HR.out.1
    by_cases hlt : k < p.length
    · obtain ⟨b, off, rfl, hbN, d1⟩ := (HL.out.on HR.out.2.1).at hlt
      have i1 : (k : Int) < (p.length : Int) := by omega
      have HNO : Hid (p[k] < 0 ∨ (p.length : Int) ≤ p[k] → ¬ OrdP p) := Lib.hid (not_ord_out hlt)
      have HNT : Hid (p[k] ∈ p.take k → ¬ OrdP p) := Lib.hid (not_ord_twice hlt)
      have HBW := Lib.hid HR.out.2.1
      unfold encZ at d1
      by_cases hneg : p[k] < 0
      · have HX := Lib.hid (HNO.out (Or.inl hneg))
        generalize p[k] = x at *
        go_wp2
        go_ret2
        exact ⟨Or.inr ⟨HX.out, rfl⟩, HBW.out⟩
      · by_cases hbig : (p.length : Int) ≤ p[k]
        · have HX := Lib.hid (HNO.out (Or.inr hbig))
          have hb2 : ¬ p[k] < 0 := hneg
          generalize p[k] = x at *
          go_wp2
          go_ret2
          exact ⟨Or.inr ⟨HX.out, rfl⟩, HBW.out⟩
        · obtain ⟨j, hj⟩ : ∃ j : Nat, p[k] = (j : Int) := ⟨p[k].toNat, by omega⟩
          have hjl : j < p.length := by omega
          obtain ⟨d2, f2⟩ := HR.out.at hjl
          have i2 : (j : Int) < (p.length : Int) := by omega
          by_cases hin : (j : Int) ∈ p.take k
          · have HX := Lib.hid (HNT.out (by rw [hj]; exact hin))
            rw [if_pos hin] at d2
            have t : (((p.idxOf (j : Int) : Nat) : Int) != -1) = true := by
              simp
            rw [hj] at d1
            clear hneg hbig hj hin
            generalize ((p.idxOf (j : Int) : Nat) : Int) = y at *
            go_wp2
            go_ret2
            exact ⟨Or.inr ⟨HX.out, rfl⟩, HBW.out⟩
          · rw [if_neg hin] at d2
            have HN := Lib.hid (HR.out.step hlt hjl hj hin)
            rw [hj] at d1
            clear hneg hbig hj hin
            go_wp2
            go_roundw
            case rel => exact ⟨k + 1, by go_num, HN⟩
            case measure => (simp [intOf] <;> omega)
    · have hke : k = p.length := by omega
      subst hke
      have HW := Lib.hid HR.out.whole
      go_wp2
      go_ret2
      exact ⟨Or.inl ⟨HW.out.1, w.heap.size, rfl, Nat.le_refl _, HW.out.2.reads⟩, HR.out.2.1⟩
set_option maxHeartbeats 400000 in
theorem of_any (a : Option Addr) (c : Nat) (ks : List Int) (hk : ks.length ≤ 1000) (w : World) (hR : ReadsL encZ w.heap.size w a ks) :
    Calls Try.prog 11 #[.slice a ks.length c] w fun e w' =>
      ∃ g, e = .returned (.slice (some ⟨g, 0, none⟩) ks.length ks.length) ∧ w.heap.size ≤ g ∧ Below w.heap.size w w' ∧ ReadsL encZ w'.heap.size w' (some ⟨g, 0, none⟩) (invL (zs (byL ks))) := by
  have HB := Lib.hid (by_any a c ks hk w hR)
  clear hR
  go_enter Try.func11, Try.ntmps11
  go_wp2_with (first | (go_at_call 10; refine HB.out.mono ?_; rintro e w1 ⟨g, rfl, hg, hb1, hr1⟩))
  have hl : (zs (byL ks)).length = ks.length := by rw [zs_len, byL_len]
  have HI := Lib.hid (inverse_any (some ⟨g, 0, none⟩) ks.length (zs (byL ks)) (by omega) w1 hr1)
  rw [hl] at HI
  have HZ := Lib.hid (And.intro hg hb1)
  have HO := Lib.hid (And.intro (byZ_ord ks) hl)
  clear hg hb1 hr1 hl
  go_wp2_with fail
  refine HI.out.mono ?_
  rintro e w2 ⟨h2 | h2, hb2⟩
  · obtain ⟨-, g2, rfl, hg2, hr2⟩ := h2
    rw [HO.out.2]
    have H2 := Lib.hid (And.intro hg2 (And.intro hb2 hr2))
    clear hg2 hb2 hr2
    go_wp2
    go_ret
    exact ⟨g2, rfl, Nat.le_trans HZ.out.2.size H2.out.1, HZ.out.2.trans (H2.out.2.1.mono HZ.out.2.size), H2.out.2.2⟩
  · exact absurd HO.out.1 h2.1
end Go.Proofs.Ytemcbhbobfjnkaa
