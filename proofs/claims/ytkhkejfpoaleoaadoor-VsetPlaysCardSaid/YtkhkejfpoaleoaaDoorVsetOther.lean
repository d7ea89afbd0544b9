/- The other set, a set's twin, whether two sets are the same, which vertices a set parts, and the set of a list. -/
import Derived.Test.YtkhkejfpoaleoaaDoorVsetList
import Derived.Laws.CopyOwn
import Derived.Deep.RegionLaw
namespace Go.Proofs.YtkhkejfpoaleoaaDoor
open Go.RowKit Go.ChangeShapes VsetPure
theorem other_nil (w : World) :
    Calls Tryd.prog 16 #[.pointer none] w fun e w' => e = .returned (.pointer none) ∧ w = w' := by
  go_enter Tryd.func16, Tryd.ntmps16
  go_wp2
  go_ret
  exact ⟨rfl, rfl⟩
theorem twin_nil (w : World) :
    Calls Tryd.prog 15 #[.pointer none] w fun e w' => e = .returned (.pointer none) ∧ w = w' := by
  go_enter Tryd.func15, Tryd.ntmps15
  go_wp2
  go_ret
  exact ⟨rfl, rfl⟩
def otherP (n : Nat) (p : Nat → Bool) (v : Nat) : Bool := decide (v < n) && !p v
theorem noneP_none (n : Nat) : ∀ v, n ≤ v → noneP v = false := fun _ _ => rfl
/-- At the head of a round: the first k words of the new set are laid. -/
def OthRel (b g bo go n : Nat) (ws : List Nat) (w0 : World) (k : Nat) (w : World) : Prop :=
  Below w0.heap.size w0 w ∧ TwoAt b w (.int .i64 (n : Int)) (.slice (some ⟨g, 0, none⟩) ws.length ws.length) ∧ RowIs g w (ws.map encW) ∧ ∃ vs : List Nat, vs.length = ws.length ∧ Wordy vs ∧ (∀ j, j < k → vs.getD j 0 = 18446744073709551615 - ws.getD j 0) ∧
    TwoAt bo w (.int .i64 (n : Int)) (.slice (some ⟨go, 0, none⟩) ws.length ws.length) ∧ RowIs go w (vs.map encW) ∧ go < w.heap.size
theorem OthRel.on {b g bo go n k : Nat} {ws : List Nat} {w0 w w' : World} (h : OthRel b g bo go n ws w0 k w) (hg : g < w.heap.size) (hb : Below w.heap.size w w') : OthRel b g bo go n ws w0 k w' := by
  obtain ⟨h1, h2, h3, vs, h4, h5, h6, h7, h8, h9⟩ := h
  exact ⟨h1.trans (hb.mono h1.size), h2.on hb h2.lt, h3.on hb hg, vs, h4, h5, h6, h7.on hb h7.lt, h8.on hb h9, Nat.lt_of_lt_of_le h9 hb.size⟩
theorem OthRel.cells {b g bo go n k : Nat} {ws : List Nat} {w0 w : World} (h : OthRel b g bo go n ws w0 k w) {j : Nat} (hj : j < ws.length) :
    w.cell? ⟨b, 0, none⟩ = some (.int .i64 (n : Int)) ∧ w.cell? ⟨g, j, none⟩ = some (.int .u64 (ws.getD j 0 : Int)) ∧ w.cell? ⟨bo, 1, none⟩ = some (.slice (some ⟨go, 0, none⟩) ws.length ws.length) ∧ (∃ old, w.cell? ⟨go, j, none⟩ = some old) ∧ w.frozen? ⟨go, j, none⟩ = false := by
  obtain ⟨h1, h2, h3, vs, h4, h5, h6, h7, h8, h9⟩ := h
  have e1 := (h3 j (by rw [List.length_map]; exact hj)).1
  have e2 := h8 j (by rw [List.length_map, h4]; exact hj)
  rw [List.getElem_map] at e1
  refine ⟨h2.1, ?_, h7.2.1, ⟨_, e2.1⟩, e2.2⟩
  rw [e1, List.getD_eq_getElem?_getD, List.getElem?_eq_getElem hj]; rfl
theorem OthRel.step {b g bo go n k : Nat} {ws : List Nat} {w0 w : World} (h : OthRel b g bo go n ws w0 k w) (h1 : bo ≠ go) (h2 : b ≠ go) (h3 : g ≠ go) (h4 : w0.heap.size ≤ go) (h5 : g < w.heap.size) (hk : k < ws.length) (hw : Wordy ws) :
    OthRel b g bo go n ws w0 (k + 1) (w.setCell ⟨go, k, none⟩ (.int .u64 ((18446744073709551615 - ws.getD k 0 : Nat) : Int))) := by
  obtain ⟨a1, a2, a3, vs, a4, a5, a6, a7, a8, a9⟩ := h
  have hg := grown_cell w go k (.int .u64 ((18446744073709551615 - ws.getD k 0 : Nat) : Int))
  refine ⟨a1.trans (below_grown hg h4 a1.size), two_past a2 hg (fun e => h2 (Option.some.inj e)), row_past a3 h5 hg (fun e => h3 (Option.some.inj e)), vs.set k (18446744073709551615 - ws.getD k 0), by rw [List.length_set]; exact a4, a5.set _ _ (by omega), ?_, two_past a7 hg (fun e => h1 (Option.some.inj e)), ?_, by simpa using a9⟩
  · intro j hj
    rw [List.getD_eq_getElem?_getD, List.getElem?_set]
    by_cases e : k = j
    · subst e
      rw [if_pos rfl, if_pos (by omega)]; rfl
    · rw [if_neg e, ← List.getD_eq_getElem?_getD]
      exact a6 j (by omega)
  · have := a8.set (k := k) (by rw [List.length_map, a4]; exact hk) (encW (18446744073709551615 - ws.getD k 0))
    rw [← List.map_set] at this
    exact this
/-- All words are laid. -/
theorem OthRel.all {b g bo go n : Nat} {ws : List Nat} {w0 w : World} (h : OthRel b g bo go n ws w0 ws.length w) (hw : Wordy ws) : ∃ vs : List Nat, vs.length = ws.length ∧ Wordy vs ∧ (∀ v, bitOf vs v = (decide (v < 64 * ws.length) && !bitOf ws v)) ∧
    TwoAt bo w (.int .i64 (n : Int)) (.slice (some ⟨go, 0, none⟩) vs.length vs.length) ∧ RowIs go w (vs.map encW) ∧ go < w.heap.size := by
  obtain ⟨a1, a2, a3, vs, a4, a5, a6, a7, a8, a9⟩ := h
  exact ⟨vs, a4, a5, other_bit ws vs a4 hw a6, by rw [a4]; exact a7, a8, a9⟩
theorem nat_not (b : Nat) (h : b ≤ 18446744073709551615) : 18446744073709551615 ^^^ b = 18446744073709551615 - b := by
  have h1 := BitVec.toNat_not (x := BitVec.ofNat 64 b)
  rw [BitVec.not_def, BitVec.toNat_xor, BitVec.toNat_allOnes, BitVec.toNat_ofNat, Nat.mod_eq_of_lt (by omega)] at h1
  exact h1
theorem not_lit (b : Nat) (h : b < 18446744073709551616) : bits .xor .u64 (if IntKind.u64.signed = true then -1 else IntKind.u64.max) (b : Int) = ((18446744073709551615 - b : Nat) : Int) := by
  rw [if_neg (by decide), show IntKind.u64.max = ((18446744073709551615 : Nat) : Int) from rfl, bits_xor_u64_nat _ _ (by omega) (by omega), nat_not b (by omega)]
set_option maxHeartbeats 1000000 in
theorem other_any (b g n : Nat) (p : Nat → Bool) (w : World) (h : SetAt b g w n p) :
    Calls Tryd.prog 16 #[.pointer (some ⟨b, 0, none⟩)] w fun e w' => e = .returned (.pointer (some ⟨w.heap.size + 1, 0, none⟩)) ∧ Below w.heap.size w w' ∧ SetAt (w.heap.size + 1) w.heap.size w' n (otherP n p) := by
  have hl := h.lt
  obtain ⟨a1, a2, a3, a4, ws, hw, hlen, hp, ht, hr⟩ := h
  have c0 := ht.1
  have HT := Lib.hid ht
  have HR := Lib.hid hr
  have HW := Lib.hid hw
  have HP := Lib.hid hp
  have HL := Lib.hid hlen
  have H4 := Lib.hid a4
  have h64 : ws.length ≤ 64 := by omega
  clear ht hr hw hp hlen a4 a3
  go_enter Tryd.func16, Tryd.ntmps16
  go_wp2_with (first | (go_at_call 7; refine (new_any (n : Int) (by omega) (by omega) w).mono ?_; rintro e w1 ⟨rfl, hb1, hs1⟩; rw [roomN_of n a1] at hs1; have c1 := (HT.out.on hb1 hl.1).2.1))
  have HS : Hid (OthRel b g (w.heap.size + 1) w.heap.size n ws w 0 w1) := Lib.hid (by
    obtain ⟨-, -, g3, -, vs, v1, v2, v3, v4, v5⟩ := hs1
    have e : vs.length = ws.length := v2.trans HL.out.symm
    exact ⟨hb1, HT.out.on hb1 hl.1, HR.out.on hb1 hl.2, vs, e, v1, fun j hj => by omega, by rw [← e]; exact v4, v5, g3⟩)
  have HN : Hid (w.heap.size + 1 ≠ w.heap.size ∧ b ≠ w.heap.size ∧ g ≠ w.heap.size ∧ w.heap.size ≤ w.heap.size ∧ g < w.heap.size) := Lib.hid ⟨by omega, by omega, by omega, Nat.le_refl _, hl.2⟩
  clear hs1 hb1 c0 c1 hl
  go_loopw [18] (fun i wr => ∃ k : Nat, k ≤ ws.length ∧ i = .int .i64 k ∧ Hid (OthRel b g (w.heap.size + 1) w.heap.size n ws w k wr)) (fun i _ => ws.length - (intOf i).toNat)
  case atStart => exact ⟨0, Nat.zero_le _, rfl, HS⟩
  case round =>
    obtain ⟨k, hk, rfl, HK⟩ := hrel
    have i0 : (0 : Int) ≤ (k : Int) := by omega
    by_cases hlt : k < ws.length
    · have i1 : (k : Int) < (ws.length : Int) := by omega
      obtain ⟨-, d1, d2, ⟨old, d3⟩, d4⟩ := HK.out.cells hlt
      obtain ⟨n1, n2, n3, n4, n5⟩ := HN.out
      have hx := HW.out.at k
      have HN2 := Lib.hid (HK.out.step n1 n2 n3 n4 (Nat.lt_of_lt_of_le n5 HK.out.1.size) hlt HW.out)
      have hnot := not_lit (ws.getD k 0) hx
      clear n1 n2 n3 n4 n5
      generalize ws.getD k 0 = x at *
      have HO := Lib.hid hnot
      clear hnot hx
      go_wp2
      rw [HO.out]
      go_roundw
      case rel => exact ⟨k + 1, by omega, by go_num, HN2⟩
      case measure => (simp [intOf] <;> omega)
    · have hke : k = ws.length := by omega
      subst hke
      obtain ⟨vs, v1, v2, v3, v4, v5, v6⟩ := HK.out.all HW.out
      have hbel := Lib.hid HK.out.1
      have c0 := HK.out.2.1.1
      obtain ⟨n1, -⟩ := HN.out
      by_cases hz : n % 64 = 0
      · have t : ((n : Int) % 64 != 0) = false := by have : (n : Int) % 64 = 0 := by omega
                                                     simp [this]
        have hend : Hid (SetAt (w.heap.size + 1) w.heap.size wr n (otherP n p)) := Lib.hid ⟨a1, n1, v6, fun v hv => by unfold otherP; rw [decide_eq_false (by omega)]; rfl, vs, v2, v1.trans HL.out, by
          funext v
          have hl := HL.out
          rw [v3]; unfold otherP; rw [HP.out]
          congr 1
          exact decide_eq_decide.2 ⟨fun e => by omega, fun e => by omega⟩, v4, v5⟩
        clear v1 v2 v3 v4 v5 v6 n1
        go_wp2
        go_ret
        exact ⟨rfl, hbel.out, hend.out⟩
      · have t : ((n : Int) % 64 != 0) = true := by have : ¬ (n : Int) % 64 = 0 := by omega
                                                    simp [this]
        have hl := HL.out
        have hpos : 0 < ws.length := by omega
        obtain ⟨q, hq⟩ : ∃ q, q = ws.length - 1 := ⟨_, rfl⟩
        obtain ⟨r, hr⟩ : ∃ r, r = 2 ^ (n % 64) - 1 := ⟨_, rfl⟩
        have hrlt : r < 18446744073709551616 := by have := pow_lt n; omega
        have hx := v2.at q
        have hqv : q < vs.length := by omega
        have e2 := v5 q (by rw [List.length_map]; exact hqv)
        rw [List.getElem_map] at e2
        have d3 : wr.cell? ⟨w.heap.size, q, none⟩ = some (.int .u64 (vs.getD q 0 : Int)) := by
          rw [e2.1, List.getD_eq_getElem?_getD, List.getElem?_eq_getElem hqv]; rfl
        have d4 := e2.2
        have d1 := HK.out.2.2.2.choose_spec.2.2.2.1.2.1
        have hand : bits .and .u64 ((vs.getD q 0 : Nat) : Int) (r : Int) = ((vs.getD q 0 &&& r : Nat) : Int) := and_lit _ hx r hrlt
        have hwq : IntKind.i64.wrap ((ws.length : Int) - 1) = (q : Int) := by rw [IntKind.wrap_i64]; omega
        have hwr : IntKind.u64.wrap ((2 : Int) ^ (n % 64) - 1) = (r : Int) := by
          have hp1 := Nat.two_pow_pos (n % 64)
          have hp2 := pow_lt n
          have e : (2 : Int) ^ (n % 64) = ((2 ^ (n % 64) : Nat) : Int) := by rw [Int.natCast_pow]; rfl
          rw [IntKind.wrap_u64, e]
          generalize 2 ^ (n % 64) = z at *
          omega
        have i1 : (q : Int) < (ws.length : Int) := by omega
        have i0 : (0 : Int) ≤ (q : Int) := by omega
        have hend : Hid (∀ W : World, TwoAt (w.heap.size + 1) W (.int .i64 (n : Int)) (.slice (some ⟨w.heap.size, 0, none⟩) vs.length vs.length) → RowIs w.heap.size W (vs.map encW) → w.heap.size < W.heap.size → SetAt (w.heap.size + 1) w.heap.size (W.setCell ⟨w.heap.size, q, none⟩ (.int .u64 ((vs.getD q 0 &&& r : Nat) : Int))) n (otherP n p)) := Lib.hid (fun W k1 k2 k3 => by
          have hqe : q = vs.length - 1 := by omega
          refine ⟨a1, n1, by simpa using k3, fun v hv => by unfold otherP; rw [decide_eq_false (by omega)]; rfl, vs.set q (vs.getD q 0 &&& r), v2.set _ _ (Nat.lt_of_le_of_lt Nat.and_le_left hx), by rw [List.length_set]; exact v1.trans hl, ?_, ?_, ?_⟩
          · funext v
            rw [hqe, hr, mask_bit hz (v1.trans hl), v3]
            unfold otherP
            rw [HP.out]
            by_cases hv : v < n
            · have : v < 64 * ws.length := by omega
              simp [hv, this]
            · simp [hv]
          · rw [List.length_set]
            exact two_past k1 (grown_cell _ _ _ _) (fun e => n1 (Option.some.inj e))
          · have := k2.set (k := q) (by rw [List.length_map]; exact hqv) (encW (vs.getD q 0 &&& r))
            rw [← List.map_set] at this
            exact this)
        have hend2 := Lib.hid (hend.out (wr.drewN 1) (v4.on (below_drewN (Below.refl wr.heap.size wr) 1) v4.lt) (v5.on (below_drewN (Below.refl wr.heap.size wr) 1) v6) v6)
        have hbel2 : Hid (Below w.heap.size w ((wr.drewN 1).setCell ⟨w.heap.size, q, none⟩ (.int .u64 ((vs.getD q 0 &&& r : Nat) : Int)))) := Lib.hid ((below_drewN hbel.out 1).trans (below_grown (grown_cell _ _ _ _) (Nat.le_refl _) hbel.out.size))
        have c0' : (wr.drewN 1).cell? ⟨b, 0, none⟩ = some (.int .i64 (n : Int)) := by simpa using c0
        have d1' : (wr.drewN 1).cell? ⟨w.heap.size + 1, 1, none⟩ = some (.slice (some ⟨w.heap.size, 0, none⟩) ws.length ws.length) := by simpa using d1
        have d3' : (wr.drewN 1).cell? ⟨w.heap.size, q, none⟩ = some (.int .u64 (vs.getD q 0 : Int)) := by simpa using d3
        have d4' : (wr.drewN 1).frozen? ⟨w.heap.size, q, none⟩ = false := by simpa using d4
        clear v1 v2 v3 v4 v5 v6 n1 hr hq e2 hqv hx hrlt hl hpos d1 d3 d4 hend hbel
        generalize vs.getD q 0 = x at *
        go_wp2_with fail
        refine wp_region_still_tail 20 (by kernel_rfl) (by kernel_rfl) ?_
        change wpStill _ _ (wr.drewN 1) _ _ _
        change wpStill _ _ _ (fun a' => wpList _ _ _ _ _ (wr.drewN 1)) _ _
        generalize wr.drewN 1 = W at *
        simp only [List.take_succ_cons, List.take_zero, List.drop_succ_cons, List.drop_zero]
        repeat still_step
        still_call ((bit_any n a1 _).mono fun _ _ ⟨h1, h2⟩ => ⟨h1, h2.symm⟩)
        repeat still_step
        refine wpStill_nil ?_
        go_wp2
        go_ret
        exact ⟨rfl, hbel2.out, hend2.out⟩
end Go.Proofs.YtkhkejfpoaleoaaDoor
