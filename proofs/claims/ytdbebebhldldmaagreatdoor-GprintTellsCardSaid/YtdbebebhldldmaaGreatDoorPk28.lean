/- Texts that the laws of this seat stand on, part 28. -/
import Derived.Test.YtdbebebhldldmaaGreatDoorPk10
import Derived.Test.YtdbebebhldldmaaGreatDoorPk14
import Derived.Test.YtdbebebhldldmaaGreatDoorPk27
import Derived.Test.YtdbebebhldldmaaGreatDoorPk15
import Derived.Test.YtdbebebhldldmaaGreatDoorPk3
import Derived.Test.YtdbebebhldldmaaGreatDoorPk1
import Derived.Test.YtdbebebhldldmaaGreatDoorPk0
import Derived.Deep.QuietTactic
import Derived.BigQuiet
import Derived.IntWalk
/- Contracts: a row of weights, and all rows of a graph as a text (layer 18). -/
namespace Go.Proofs.YtdbebebhldldmaaGreatDoor.Gp
open Go.RowKit Go.ChangeShapes WordPure Str Wd EdPure NtPure GpPure
def IntOwn (l : List Int) (w : World) (e : Ending) (w' : World) : Prop := Below w.heap.size w w' ∧ ∃ v, e = .returned v ∧ w'.ownsRow w.heap.size 3 1 v l.length (l.map encZ)
set_option maxRecDepth 100000 in
theorem cloneIO_any (a : Option Addr) (c : Nat) (l : List Int) (hl : l.length ≤ 1048576) (w : World) (h : ReadsL encZ w.heap.size w a l) :
    Calls Tryz.prog 88 #[.slice a l.length c] w fun e w' => IntOwn l w e w' := by
  have HR := Lib.hid h
  clear h
  have q22 : ∀ (w : World) (a : Option Addr) (n c n' c' : Nat), (binOp .eql 81 (.slice a n c) (.slice none n' c')).run Tryz.prog w = .ok (.bool a.isNone) w := fun w a n c n' c' => Lib.run_eql_slice_nil w _ _ a n c n' c' Tryz.underlying81
  cases a with
  | none =>
    have e : l = [] := by
      rcases HR.out with h | ⟨b, off, h, -⟩
      · exact h
      · cases h
    subst e
    go_enter Tryz.func88, Tryz.ntmps88
    go_wp2
    go_ret
    exact ⟨Below.refl _ _, _, rfl, World.ownsRow_nil _ _ _ _⟩
  | some ad =>
    obtain ⟨i1, hi1, hi2, hi3, hi4⟩ := info_parts (show (Tryz.prog.info? 3).map (fun i => (i.zero, i.size, i.bytes)) = some (some (.int .i64 0), 1, 8) by kernel_rfl)
    go_enter Tryz.func88, Tryz.ntmps88
    go_wp2_with (first
      | (at_builtin; refine wpList_append_own_at _ rfl _ _ 81 rfl w.heap.size 3 i1 (.int .i64 0) 1 8 Tryz.underlying81 hi1 hi2 hi3 hi4 rfl (by decide) (.slice (some ⟨w.heap.size, 0, none⟩) 0 0) 0 [] rfl (World.ownsRow_made w #[] 0 (Nat.le_refl _) (Nat.zero_le _) (by simp)) ad l.length c (l.map encZ) rfl (by simp) (fun j u hj => reads_newsI (HR.out.over ((Below.refl w.heap.size w).alloc (Nat.le_refl _) (.cells #[] 3)) (Nat.le_refl _)) j u hj) (by intro u hu; obtain ⟨m, -, rfl⟩ := List.mem_map.1 hu; rfl) (by unfold maxLen; omega) (by omega) (by simp) ?_; intro v' w6 hown6 hg6 _ _
         have hb6 : Below w.heap.size w w6 := ((Below.refl w.heap.size w).alloc (Nat.le_refl _) (.cells #[] 3)).grown hg6 (by simp) (by intro k hk; simp [Value.ownBlock] at hk; omega)
         rw [Nat.zero_add, List.nil_append] at hown6
         have HW := Lib.hid (And.intro hown6 hb6); clear hown6 hg6 hb6)
      | go_in)
    go_ret
    exact ⟨HW.out.2, _, rfl, HW.out.1⟩
set_option maxRecDepth 100000 in
theorem nearO_any (p : Option Addr) (n : Nat) (M : List Ed) (hl : M.length ≤ 1048576) (v : Int) (w : World) (h : NetAt p n M w) :
    Calls Tryz.prog 63 #[.pointer p, .int .i64 v] w fun e w' => IntOwn (nearV n M v) w e w' := by
  have HN := Lib.hid h
  have HL : Hid ((nearV n M v).length ≤ 1048576) := Lib.hid (Nat.le_trans (nearV_len n M v) hl)
  clear h
  go_enter Tryz.func63, Tryz.ntmps63
  go_wp2_with fail
  refine (nparts_any p n M w HN.out).mono ?_
  rintro e w1 ⟨hb, pv, cv, pe, ce, rfl, -, hr⟩
  have HB := Lib.hid hb
  have HR := Lib.hid hr
  clear hb hr HN
  go_wp2_with fail
  refine (around_any pv cv n M v w1 HR.out).mono ?_
  rintro e w2 ⟨hb2, q, c2, rfl, hr2⟩
  have HB2 := Lib.hid (HB.out.trans (hb2.mono HB.out.size))
  have HR2 := Lib.hid hr2
  clear hb2 hr2 HB HR
  go_wp2_with (first | (go_at_call 88; refine (cloneIO_any q c2 (nearV n M v) HL.out w2 HR2.out).mono ?_; rintro e w3 ⟨hb3, v3, rfl, hr3⟩; obtain ⟨q3, c3, rfl, -⟩ := owns_readsL rfl hr3; have HB3 := Lib.hid (HB2.out.trans (hb3.mono HB2.out.size)); have HR3 := Lib.hid hr3; clear hb3 hr3))
  go_ret
  exact ⟨HB3.out, _, rfl, owns_mono HR3.out (HB2.out.size)⟩
/-- What the row tells while it is filled. -/
def rowF (M : List Ed) (v : Int) (D : List Int) (u : Nat) : Int := if (u : Int) ∈ D then weiE M v (u : Int) else 0
def rowC (N : Nat) (M : List Ed) (v : Int) (D : List Int) : List Value := ((List.range N).map fun u : Nat => rowF M v D u).map encZ
theorem rowC_len (N : Nat) (M : List Ed) (v : Int) (D : List Int) : (rowC N M v D).length = N := by unfold rowC; simp
theorem rowC_nil (N : Nat) (M : List Ed) (v : Int) : rowC N M v [] = List.replicate N (.int .i64 0) := by
  refine List.ext_getElem (by rw [rowC_len]; simp) fun i h1 h2 => ?_
  unfold rowC rowF encZ
  simp
theorem rowC_at (N : Nat) (M : List Ed) (v : Int) (D : List Int) {u : Nat} (h : u < (rowC N M v D).length) : (rowC N M v D)[u] = .int .i64 (rowF M v D u) := by
  unfold rowC encZ
  simp
theorem rowC_next (N : Nat) (M : List Ed) (v : Int) (D : List Int) (u : Nat) : (rowC N M v D).set u (.int .i64 (weiE M v (u : Int))) = rowC N M v (D ++ [(u : Int)]) := by
  refine List.ext_getElem (by rw [List.length_set, rowC_len, rowC_len]) fun i h1 h2 => ?_
  rw [rowC_at]
  by_cases e : i = u
  · subst e
    rw [List.getElem_set_self]
    unfold rowF
    rw [if_pos (by simp)]
  · rw [List.getElem_set_ne (fun x => e x.symm), rowC_at]
    unfold rowF
    have : ((i : Int) ∈ D ++ [(u : Int)]) ↔ (i : Int) ∈ D := by
      rw [List.mem_append, List.mem_singleton]
      exact ⟨fun h => h.elim id fun h => absurd (by omega) e, Or.inl⟩
    simp only [this]
theorem rowC_all {N : Nat} {M : List Ed} (hG : GoodN N M) (v : Int) : (List.range N).map (fun u : Nat => rowF M v (nearE M v) u) = rowL M v N := by
  unfold rowL
  refine List.map_congr_left fun u _ => ?_
  unfold rowF
  split
  · rfl
  · next h =>
    have h1 := (wei_rng hG v (u : Int)).1
    have h2 : ¬ 0 < weiE M v (u : Int) := fun h3 => h ((near_mem hG v (u : Int)).2 (by rw [wei_symm]; exact h3))
    omega
/-- While the row in block B is filled, beside the list of those around in a later block. -/
def RwSt (w : World) (B N : Nat) (M : List Ed) (v : Int) (D : List Int) (s : Value) (wr : World) : Prop :=
  Below w.heap.size w wr ∧ RowIs B wr (rowC N M v D) ∧ wr.ownsRow (B + 1) 3 1 s (nearE M v).length ((nearE M v).map encZ) ∧ w.heap.size ≤ B ∧ B < wr.heap.size
theorem RwSt.keep {w wr w' : World} {B N : Nat} {M : List Ed} {v : Int} {D : List Int} {s : Value} (h : RwSt w B N M v D s wr) (hb : Below wr.heap.size wr w') : RwSt w B N M v D s w' :=
  ⟨h.1.trans (hb.mono h.1.size), h.2.1.on hb h.2.2.2.2, owns_below h.2.2.1 hb, h.2.2.2.1, Nat.lt_of_lt_of_le h.2.2.2.2 hb.size⟩
theorem RwSt.put {w wr : World} {B N : Nat} {M : List Ed} {v : Int} {D : List Int} {s : Value} (h : RwSt w B N M v D s wr) {u : Nat} (hu : u < N) : RwSt w B N M v (D ++ [(u : Int)]) s (wr.setCell ⟨B, u, none⟩ (.int .i64 (weiE M v (u : Int)))) :=
  ⟨h.1.setCell (p := ⟨B, u, none⟩) h.2.2.2.1 _, by rw [← rowC_next]; exact h.2.1.set (by rw [rowC_len]; exact hu) _, owns_setCell h.2.2.1 (p := ⟨B, u, none⟩) (Nat.lt_succ_self B) _, h.2.2.2.1, by simpa using h.2.2.2.2⟩
set_option maxRecDepth 100000 in
set_option maxHeartbeats 2000000 in
theorem row_any (p : Option Addr) (N : Nat) (M : List Ed) (hN : N ≤ 4096) (hG : GoodN N M) (hM : M.length ≤ 100000) (v : Nat) (w : World) (h : NetAt p N M w) :
    Calls Tryz.prog 32 #[.pointer p, .int .i64 (v : Int)] w fun e w' => Below w.heap.size w w' ∧ ∃ q c, e = .returned (.slice q N c) ∧ ReadsL encZ w'.heap.size w' q (rowL M (v : Int) N) := by
  have HN := Lib.hid h
  have HG := Lib.hid hG
  have HL : Hid ((nearE M (v : Int)).length ≤ 100000) := Lib.hid (by have := nearV_len N M (v : Int); rw [nearV_eq hG] at this; omega)
  have HA := Lib.hid (rowC_all hG (v : Int))
  have HMK := Lib.hid (fun w => makeRow (P := Tryz.prog) (T := 73) (E := 2) (z := .int .i64 0) (c := 8) Tryz.underlying73 (by kernel_rfl) (by decide) rfl N (by omega) w)
  have HNA := Lib.hid (fun w h => nearO_any p N M (by omega) (v : Int) w h)
  rw [nearV_eq hG] at HNA
  clear h hG
  go_enter Tryz.func32, Tryz.ntmps32
  go_wp2_with fail
  refine (num_any p N M w HN.out).mono ?_
  rintro e w1 ⟨rfl, hb1⟩
  have HB1 := Lib.hid hb1
  have hmk := HMK.out w1
  have hbA := (Below.refl w1.heap.size w1).alloc (Nat.le_refl _) (.cells (madeCells #[.int .i64 0] N) 2)
  have HR1 : Hid (RowIs w1.heap.size (w1.alloc (.cells (madeCells #[.int .i64 0] N) 2)) (rowC N M (v : Int) [])) := Lib.hid (by rw [rowC_nil]; exact rowIs_made w1 (.int .i64 0) N 2)
  have HB2 : Hid (Below w.heap.size w (w1.alloc (.cells (madeCells #[.int .i64 0] N) 2))) := Lib.hid (hb1.trans (hbA.mono hb1.size))
  have HBL : Hid (w.heap.size ≤ w1.heap.size ∧ w1.heap.size < (w1.alloc (.cells (madeCells #[.int .i64 0] N) 2)).heap.size) := Lib.hid ⟨hb1.size, by simp⟩
  clear hb1 hbA
  go_wp2_with fail
  generalize w1.alloc (.cells (madeCells #[.int .i64 0] N) 2) = W1 at *
  generalize w1.heap.size = B at *
  refine (HNA.out W1 (HN.out.over HB2.out)).mono ?_
  rintro e w2 ⟨hb2, s, rfl, ho⟩
  obtain ⟨q, c, rfl, -⟩ := owns_readsL rfl ho
  have HF : Hid (RwSt w B N M (v : Int) ((nearE M (v : Int)).take 0) (.slice q (nearE M (v : Int)).length c) w2) := Lib.hid ⟨HB2.out.trans (hb2.mono HB2.out.size), HR1.out.on hb2 HBL.out.2, owns_mono ho HBL.out.2, HBL.out.1, Nat.lt_of_lt_of_le HBL.out.2 hb2.size⟩
  clear hb2 ho HR1 HB2 hmk HMK HNA HB1
  generalize hD : nearE M (v : Int) = D at *
  have HD := Lib.hid hD
  have hDl := HL.out
  clear hD
  go_wp2
  go_loopw [15] (fun i wr => ∃ k : Nat, i = .int .i64 k ∧ k ≤ D.length ∧ Hid (RwSt w B N M (v : Int) (D.take k) (.slice q D.length c) wr)) (fun i _ => D.length - (intOf i).toNat)
  case atStart => exact ⟨0, rfl, Nat.zero_le _, HF⟩
  case round =>
    clear HF
    obtain ⟨k, rfl, hk, HF⟩ := hrel
    by_cases hlt : k < D.length
    · have ho := HF.out.2.2.1
      rw [HD.out] at ho
      obtain ⟨p2, c2, he2, hr2, -⟩ := owns_readsL rfl ho
      cases he2
      obtain ⟨b, off, hqe, hbN, hck⟩ := hr2.at hlt
      have hmem : D[k] ∈ nearE M (v : Int) := by rw [HD.out]; exact List.getElem_mem hlt
      obtain ⟨u, hu⟩ : ∃ u : Nat, D[k] = (u : Int) := ⟨(D[k]).toNat, by have := near_in HG.out hmem; omega⟩
      have huN : u < N := by have := near_in HG.out hmem; omega
      rw [hu] at hck
      unfold encZ at hck
      have HT : Hid (D.take (k + 1) = D.take k ++ [(u : Int)]) := Lib.hid (by rw [List.take_succ_eq_append_getElem hlt, hu])
      have i1 : (k : Int) < (D.length : Int) := by omega
      have i2 : (u : Int) < (N : Int) := by omega
      clear ho hr2 hmem hu
      subst hqe
      have HWT := Lib.hid (weight_any p N M HG.out (by omega) (v : Int) (u : Int) wr (HN.out.over HF.out.1))
      go_wp2_with fail
      refine HWT.out.mono ?_
      rintro e w3 ⟨rfl, hb3⟩
      have HF3 := Lib.hid (HF.out.keep hb3)
      clear hb3 HF hck HWT
      obtain ⟨hc1, hf1⟩ := HF3.out.2.1 u (by rw [rowC_len]; exact huN)
      have hBl := HF3.out.2.2.2.2
      have HP := Lib.hid (HF3.out.put huN)
      generalize weiE M (v : Int) (u : Int) = x at *
      rw [rowC_at] at hc1
      clear HF3
      go_wp2
      go_roundw
      case rel => exact ⟨k + 1, by go_num, hlt, by rw [HT.out]; exact HP⟩
      case measure => simp [intOf]; omega
    · have hke : k = D.length := by omega
      have i1 : ¬ (k : Int) < (D.length : Int) := by omega
      have HE : Hid (Below w.heap.size w wr ∧ ReadsL encZ wr.heap.size wr (some ⟨B, 0, none⟩) (rowL M (v : Int) N)) := Lib.hid (by
        have h1 := HF.out.2.1
        rw [hke, List.take_length] at h1
        rw [← HA.out]
        exact ⟨HF.out.1, h1.reads⟩)
      clear HF hke
      go_wp2
      go_ret
      exact ⟨HE.out.1, some ⟨B, 0, none⟩, ⟨N, rfl⟩, HE.out.2⟩
set_option maxRecDepth 100000 in
set_option maxHeartbeats 2000000 in
theorem progRows_any (p : Option Addr) (N : Nat) (M : List Ed) (hN : N ≤ 4096) (hG : GoodN N M) (hM : M.length ≤ 100000) (w : World) (h : NetAt p N M w) (hT : Ten w) :
    Calls Tryz.prog 10 #[.pointer p] w fun e w' => e = .returned (.string ⟨(rwP p N M).toArray⟩) ∧ Below w.heap.size w w' := by
  have hrw : rwP p N M = rowsP N M N := by
    unfold rwP
    rcases h with ⟨rfl, rfl, rfl⟩ | ⟨g, _, _, _, _, rfl, _⟩
    · rfl
    · exact if_neg (by simp)
  have HN := Lib.hid h
  have HT := Lib.hid hT
  have hin : ∀ u v, In (weiE M u v) := fun u v => by
    have h1 := wei_rng hG u v
    have h2 := hG.2.2
    unfold In
    omega
  have HI := Lib.hid hin
  have HS := Lib.hid (rows_size (n := N) (M := M) hin)
  rw [hrw]
  clear h hT hrw hin
  go_enter Tryz.func10, Tryz.ntmps10
  go_wp2_with fail
  refine (newTx_any w).mono ?_
  rintro e w1 ⟨rfl, hs1⟩
  have HF1 : Hid (TxSt w (rowsP N M 0) w1) := Lib.hid hs1
  clear hs1
  go_wp2_with fail
  refine (num_any p N M w1 (HN.out.over HF1.out.1)).mono ?_
  rintro e w3 ⟨rfl, hb3⟩
  have HF3 := Lib.hid (HF1.out.keep hb3)
  clear hb3 HF1
  go_wp2
  go_loopw [12] (fun i wr => ∃ k : Nat, i = .int .i64 k ∧ k ≤ N ∧ Hid (TxSt w (rowsP N M k) wr)) (fun i _ => N - (intOf i).toNat)
  case atStart => exact ⟨0, rfl, Nat.zero_le _, HF3⟩
  case round =>
    clear HF3
    obtain ⟨k, rfl, hk, HF⟩ := hrel
    by_cases hlt : k < N
    · have i1 : (k : Int) < (N : Int) := by omega
      have HX := Lib.hid (rows_succ N M k)
      have HL := Lib.hid (row_len M (k : Int) N)
      have HRI : Hid (∀ n ∈ rowL M (k : Int) N, In n) := Lib.hid (fun n hn => by
        obtain ⟨v, -, rfl⟩ := List.mem_map.1 hn
        exact HI.out _ _)
      have HZ : Hid ((rowsP N M k).length ≤ 100000000000) := Lib.hid (by
        have h1 := HS.out k
        have h2 : (21 * N + 1) * k ≤ (21 * 4096 + 1) * 4096 := Nat.mul_le_mul (by omega) (by omega)
        omega)
      have HRW := Lib.hid (row_any p N M hN hG hM k wr (HN.out.over HF.out.1))
      generalize rowL M (k : Int) N = R at *
      have HSH : Hid (Short 10000000 [nums R]) := Lib.hid (by
        have h1 := nums_size HRI.out
        have h2 := HL.out
        unfold Short
        simp only [Lib.lens, List.map_cons, List.map_nil, List.sum_cons, List.sum_nil, List.length_cons, List.length_nil]
        omega)
      go_wp2_with fail
      refine HRW.out.mono ?_
      rintro e w4 ⟨hb4, q, c, rfl, hr4⟩
      have HF4 := Lib.hid (HF.out.keep hb4)
      have HR4 := Lib.hid hr4
      have HLN := Lib.hid (listNums_any q c R w4 HRI.out hr4 (by have := HL.out; omega) (HT.out.on HF4.out.1))
      rw [HL.out] at HLN
      obtain ⟨X, hX⟩ : ∃ X : ByteArray, X = ⟨(nums R).toArray⟩ := ⟨_, rfl⟩
      rw [← hX] at HLN
      have HXX := Lib.hid hX
      clear hb4 hr4 HF HRW hX
      go_wp2_with fail
      refine HLN.out.mono ?_
      rintro e w5 ⟨rfl, hb5⟩
      have HF5 := Lib.hid (HF4.out.keep hb5)
      clear hb5 HF4 HLN HR4
      go_wp2_with fail
      refine (putLine_any HF5.out ((Below.refl _ _).alloc (Nat.le_refl _) _) _ [nums R] _ rfl (txt_one HXX.out w5 _) HSH.out HZ.out).mono ?_
      rintro e w6 ⟨rfl, hs6, -⟩
      have HF6 : Hid (TxSt w (rowsP N M (k + 1)) w6) := Lib.hid (by rw [HX.out]; exact hs6)
      clear hs6 HF5 HX
      go_wp2
      go_roundw
      case rel => exact ⟨k + 1, by go_num, hlt, HF6⟩
      case measure => simp [intOf]; omega
    · have hke : k = N := by omega
      have i1 : ¬ (k : Int) < (N : Int) := by omega
      subst hke
      go_wp2_with fail
      refine (told_text HF.out).mono ?_
      rintro e w9 ⟨rfl, hb9⟩
      have HB9 := Lib.hid hb9
      clear hb9
      go_wp2
      go_ret
      exact ⟨rfl, HB9.out⟩
end Go.Proofs.YtdbebebhldldmaaGreatDoor.Gp
/- A contract for strings.Cut at the byte 10. -/
namespace Go.Proofs.YtdbebebhldldmaaGreatDoor.Gr
open Go.RowKit Go.ChangeShapes WordPure
theorem byte_cases (c : UInt8) (l : List UInt8) : (Lib.indexByte l c = -1 ∧ NoC c l) ∨ ∃ i : Nat, Lib.indexByte l c = i ∧ i < l.length ∧ l = l.take i ++ c :: l.drop (i + 1) ∧ NoC c (l.take i) := by
  induction l with
  | nil => exact Or.inl ⟨rfl, fun x hc => by simp at hc⟩
  | cons b r ih =>
    by_cases hb : b = c
    · subst hb
      refine Or.inr ⟨0, ?_, by simp, rfl, fun x hc => by simp at hc⟩
      unfold Lib.indexByte; rw [if_pos (by simp)]; rfl
    · have hbe : (b == c) = false := beq_eq_false_iff_ne.2 hb
      rcases ih with ⟨h1, h2⟩ | ⟨i, h1, h2, h3, h4⟩
      · refine Or.inl ⟨?_, fun x hc => ?_⟩
        · unfold Lib.indexByte; rw [hbe, h1]; rfl
        · rw [List.mem_cons] at hc
          rcases hc with hc | hc
          · rw [hc]; exact hb
          · exact h2 x hc
      · refine Or.inr ⟨i + 1, ?_, by simp; omega, ?_, fun x hc => ?_⟩
        · unfold Lib.indexByte
          rw [hbe, h1, if_neg (by simp), if_neg (by rw [beq_iff_eq]; omega)]; omega
        · rw [List.take_succ_cons, List.drop_succ_cons, List.cons_append, ← h3]
        · rw [List.take_succ_cons, List.mem_cons] at hc
          rcases hc with hc | hc
          · rw [hc]; exact hb
          · exact h4 x hc
/-- What a text is cut into at its first blank. -/
def CutOut (s : ByteArray) (e : Ending) : Prop :=
  (NoC 10 s.data.toList ∧ e = .returned (.tuple #[.string s, .string ⟨#[]⟩, .bool false])) ∨
  (∃ P R : ByteArray, s.data.toList = P.data.toList ++ 10 :: R.data.toList ∧ NoC 10 P.data.toList ∧ e = .returned (.tuple #[.string P, .string R, .bool true]))
theorem extract_to (s : ByteArray) (i : Nat) : (s.extract 0 i).data.toList = s.data.toList.take i := by
  rw [Lib.extract_eq]
  show List.take (i - 0) (List.drop 0 s.data.toList) = _
  rw [Nat.sub_zero, List.drop_zero]
theorem extract_from (s : ByteArray) (i : Nat) : (s.extract i s.size).data.toList = s.data.toList.drop i := by
  rw [Lib.extract_eq]
  show List.take (s.size - i) (List.drop i s.data.toList) = _
  rw [List.take_of_length_le]
  rw [List.length_drop, ← Lib.size_eq]; omega
set_option maxHeartbeats 1000000 in
theorem slCut_any (s : ByteArray) (hs : s.size ≤ 1000000000) (w : World) :
    Calls Tryz.prog 125 #[.string s, .string ⟨#[10]⟩] w fun e w' => CutOut s e ∧ Below w.heap.size w w' := by
  have HC := Lib.hid (Tryz.stringslite_Index_one s 10 w)
  rcases byte_cases 10 s.data.toList with ⟨h1, h2⟩ | ⟨i, h1, h2, h3, h4⟩
  · rw [h1] at HC
    have HN := Lib.hid h2
    clear h1 h2
    go_enter Tryz.func125, Tryz.ntmps125
    go_wp2_with fail
    refine HC.out.mono ?_
    rintro e w' ⟨rfl, hw⟩
    subst hw
    clear HC
    go_wp2
    go_ret3
    exact ⟨Or.inl ⟨HN.out, rfl⟩, Below.refl _ _⟩
  · rw [h1] at HC
    have hsz := Lib.size_eq s
    have hi : i < s.size := by omega
    have HN : Hid (∀ e, e = .returned (.tuple #[.string (s.extract 0 i), .string (s.extract (i + 1) s.size), .bool true]) → CutOut s e) := Lib.hid fun e he => by
      refine Or.inr ⟨s.extract 0 i, s.extract (i + 1) s.size, ?_, ?_, he⟩
      · rw [extract_to s i, extract_from]; exact h3
      · rw [extract_to s i]; exact h4
    clear h1 h2 h3 h4 hsz
    have c1 : (0 : Int) ≤ ↑i := by omega
    have c2 : (↑i : Int) ≤ ↑s.size := by omega
    have c3 : (0 : Int) ≤ ↑i + 1 := by omega
    have c4 : (↑i + 1 : Int) ≤ ↑s.size := by omega
    go_enter Tryz.func125, Tryz.ntmps125
    go_wp2_with fail
    refine HC.out.mono ?_
    rintro e w' ⟨rfl, hw⟩
    subst hw
    clear HC
    go_wp2
    have e1 : IntKind.i64.wrap ((i : Int) + 1) = (i : Int) + 1 := IntWalk.i64_in _ (by omega)
    have e2 : ((i : Int) + 1).toNat = i + 1 := by omega
    go_quiet (fail)
    clear e1 e2
    go_wp2
    go_ret3
    exact ⟨HN.out _ rfl, below_drewN (Below.refl _ _) _⟩
set_option maxHeartbeats 400000 in
theorem cut_any (s : ByteArray) (hs : s.size ≤ 1000000000) (w : World) :
    Calls Tryz.prog 96 #[.string s, .string ⟨#[10]⟩] w fun e w' => CutOut s e ∧ Below w.heap.size w w' := by
  have HC := Lib.hid (slCut_any s hs w)
  go_enter Tryz.func96, Tryz.ntmps96
  go_wp2_with fail
  refine HC.out.mono ?_
  rintro e w' ⟨hc, hb⟩
  have HB := Lib.hid hb
  clear HC hb
  rcases hc with ⟨h1, rfl⟩ | ⟨P, R, h1, h2, rfl⟩
  · have HN := Lib.hid h1
    clear h1
    go_wp2
    go_ret3
    exact ⟨Or.inl ⟨HN.out, rfl⟩, HB.out⟩
  · have H1 := Lib.hid h1
    have H2 := Lib.hid h2
    clear h1 h2
    go_wp2
    go_ret3
    exact ⟨Or.inr ⟨P, R, H1.out, H2.out, rfl⟩, HB.out⟩
end Go.Proofs.YtdbebebhldldmaaGreatDoor.Gr
