/- Texts that the laws of this seat stand on, part 24. -/
import Derived.Test.YtceejjgmepaonaaGreatDoorPk9
import Derived.Test.YtceejjgmepaonaaGreatDoorPk23
import Derived.Deep.Cut
import Derived.Deep.RegionHeld3
/- The document's cuts that weigh so much, and its least one (layer 22). -/
namespace Go.Proofs.YtceejjgmepaonaaGreatDoor.Br
open Go.RowKit Go.ChangeShapes EdPure NtPure CutPure SdPure BrPure Cm Sd
/-- Rows that lie in an elder world. -/
def RowsIn (B : Nat) (W2 : World) (vs : List Value) (L : List (List Int)) : Prop :=
  vs.length = L.length ∧ ∀ (i : Nat) v l, vs[i]? = some v → L[i]? = some l → ∃ q c, v = .slice q l.length c ∧ ReadsL encZ W2.heap.size W2 q l ∧ ∀ z, q = some z → B ≤ z.block
/-- A list of such rows that is gathered. -/
def ShAt (B : Nat) (W2 : World) (s : Value) (vs : List Value) (L : List (List Int)) (wr : World) : Prop :=
  Below W2.heap.size W2 wr ∧ wr.ownsRow W2.heap.size 28 1 s L.length vs ∧ RowsIn B W2 vs L
theorem ShAt.start (B : Nat) (W2 : World) : ShAt B W2 (.slice none 0 0) [] [] W2 := ⟨Below.refl _ _, World.ownsRow_nil _ _ _ _, rfl, fun i v l h => by simp at h⟩
theorem ShAt.keep {B : Nat} {W2 wr w' : World} {s : Value} {vs : List Value} {L : List (List Int)} (h : ShAt B W2 s vs L wr) (hb : Below wr.heap.size wr w') : ShAt B W2 s vs L w' := ⟨h.1.trans (hb.mono h.1.size), owns_below h.2.1 hb, h.2.2⟩
theorem ShAt.push {B : Nat} {W2 wr w' : World} {s s' : Value} {vs : List Value} {L : List (List Int)} {q : Option Addr} {c : Nat} {l : List Int} {o : Obj} (h : ShAt B W2 s vs L wr) (hr : ReadsL encZ W2.heap.size W2 q l) (hq : ∀ z, q = some z → B ≤ z.block)
    (hown : w'.ownsRow W2.heap.size 28 1 s' (L.length + 1) (vs ++ [.slice q l.length c])) (hg : (wr.alloc o).grownBy w' s.ownBlock) : ShAt B W2 s' (vs ++ [.slice q l.length c]) (L ++ [l]) w' := by
  obtain ⟨h1, h2, h3, h4⟩ := h
  refine ⟨(h1.alloc h1.size o).grown hg (h1.alloc h1.size o).size fun k hk => (h2.lt k hk).1, by rw [List.length_append]; exact hown, by rw [List.length_append, List.length_append, h3]; rfl, fun i v r hv hr' => ?_⟩
  rcases Nat.lt_or_ge i vs.length with e | e
  · rw [List.getElem?_append_left e] at hv
    rw [List.getElem?_append_left (by omega)] at hr'
    exact h4 i v r hv hr'
  · rw [List.getElem?_append_right e] at hv
    rw [List.getElem?_append_right (by omega)] at hr'
    have hi := (List.getElem?_eq_some_iff.1 hv).1
    have e0 : i - vs.length = 0 := by simpa using hi
    rw [e0] at hv
    rw [← h3, e0] at hr'
    simp at hv hr'
    subst hv; subst hr'
    exact ⟨q, c, rfl, hr, hq⟩
theorem ShAt.rows {B : Nat} {W2 wr : World} {s : Value} {vs : List Value} {L : List (List Int)} (h : ShAt B W2 s vs L wr) (hB : B ≤ W2.heap.size) : ∃ a c, s = .slice a L.length c ∧ RowsAt B wr a L := by
  obtain ⟨h1, h2, h3, h4⟩ := h
  by_cases h0 : 0 < L.length
  · have h2' := h2
    have hlt := h2.lt
    rcases h2.2 with ⟨-, e⟩ | ⟨g, cap, cur, rfl, hg, -⟩
    · omega
    · refine ⟨_, cap, rfl, Or.inr ⟨g, 0, rfl, Nat.le_trans hB hg, (hlt g rfl).2, fun i l hl => ?_⟩⟩
      have hi := (List.getElem?_eq_some_iff.1 hl).1
      have hv : vs[i]? = some vs[i] := List.getElem?_eq_getElem (by omega)
      obtain ⟨q, c, e, hr, hq⟩ := h4 i _ l hv hl
      refine ⟨q, c, ?_, (hr.on h1).mono h1.size, hq⟩
      rw [Nat.zero_add, h2'.cellAt i (by omega), hv, e]
  · have e : L = [] := List.length_eq_zero_iff.1 (by omega)
    subst e
    rcases h2.2 with ⟨rfl, -⟩ | ⟨g, cap, cur, rfl, -⟩
    · exact ⟨none, 0, rfl, Or.inl rfl⟩
    · exact ⟨_, cap, rfl, Or.inl rfl⟩
theorem rows_at {B : Nat} {W : World} {a : Option Addr} {L : List (List Int)} (h : RowsAt B W a L) {k : Nat} (hk : k < L.length) :
    ∃ b off q c, a = some ⟨b, off, none⟩ ∧ b < W.heap.size ∧ W.cell? ⟨b, off + k, none⟩ = some (.slice q L[k].length c) ∧ ReadsL encZ W.heap.size W q L[k] ∧ ∀ z, q = some z → B ≤ z.block := by
  rcases h with h | ⟨b, off, rfl, -, hN, hc⟩
  · subst h; simp at hk
  · obtain ⟨q, c, h1, h2, h3⟩ := hc k L[k] (List.getElem?_eq_getElem hk)
    exact ⟨b, off, q, c, rfl, hN, h1, h2, h3⟩
theorem rows_mono {B B' : Nat} {W : World} {a : Option Addr} {L : List (List Int)} (h : RowsAt B W a L) (hB : B' ≤ B) : RowsAt B' W a L := by
  rcases h with h | ⟨b, off, rfl, h1, hN, hc⟩
  · exact Or.inl h
  · refine Or.inr ⟨b, off, rfl, Nat.le_trans hB h1, hN, fun i l hl => ?_⟩
    obtain ⟨q, c, e1, e2, e3⟩ := hc i l hl
    exact ⟨q, c, e1, e2, fun z hz => Nat.le_trans hB (e3 z hz)⟩
def pickW (M : List Ed) (x : Int) (L : List (List Int)) : List (List Int) := L.filter fun s => decide (cutW M (inS s) = x)
theorem pick_take {M : List Ed} {x : Int} {L : List (List Int)} {k : Nat} (hk : k < L.length) : pickW M x (L.take (k + 1)) = pickW M x (L.take k) ++ (if cutW M (inS L[k]) = x then [L[k]] else []) := by
  unfold pickW
  rw [List.take_succ_eq_append_getElem hk, List.filter_append]
  by_cases h : cutW M (inS L[k]) = x
  · rw [if_pos h]; simp [h]
  · rw [if_neg h]; simp [h]
theorem all_len (n : Nat) : (allS n).length = 2 ^ (n - 1) - 1 := sideL_len n _
theorem all_few {n : Nat} (h : n ≤ 20) : (allS n).length ≤ 524288 := by
  have := Nat.pow_le_pow_right (n := 2) (by omega) (show n - 1 ≤ 19 by omega)
  rw [all_len]; omega
theorem all_short {n k : Nat} (h : n ≤ 20) (hk : k < (allS n).length) : ((allS n)[k]).length ≤ 20 := by
  obtain ⟨m, -, -, e⟩ := (sideL_mem n _ _).1 (List.getElem_mem hk)
  rw [e]
  have := bit_len m (n - 1)
  omega
set_option maxRecDepth 100000 in
set_option maxHeartbeats 4000000 in
theorem refAll_any (n : Nat) (h2 : 2 ≤ n) (h20 : n ≤ 20) (a : Option Addr) (c : Nat) (M : List Ed) (hm : M.length ≤ 100000) (hn : NonNeg M) (ha : allW M ≤ 2251799813685248) (x : Int) (w : World) (hR : ReadsE w.heap.size w a M) :
    Calls Tryz.prog 12 #[.agg #[.int .i64 (n : Int), .slice a M.length c], .int .i64 x] w fun e w' => RowsO (pickW M x (allS n)) w e w' := by
  have HS : Hid (BoxSt w w.heap.size (n : Int) a c M (w.alloc (.cells #[.int .i64 (n : Int), .slice a M.length c] 34))) := Lib.hid (BoxSt.start hR)
  obtain ⟨tr, hr1, hr2, hr3, hr4⟩ := info_parts info_rows
  have HW := Lib.hid (fun b d l hl w hR hS => refWeight_any (n : Int) a c M hm hn ha b d l hl w hR hS)
  have HFew := all_few h20
  have HSh := Lib.hid (fun k hk => all_short (k := k) h20 hk)
  clear hR
  go_enter Tryz.func12, Tryz.ntmps12
  go_upto_region 2 with fail
  generalize w.alloc (.cells #[.int .i64 (n : Int), .slice a M.length c] 34) = W0 at *
  generalize hX : w.heap.size = X at *
  have HX := Lib.hid hX
  clear hX
  obtain ⟨b0, b1, -, -⟩ := HS.out.2.1
  go_wp2_with fail
  refine (refSides_any n h2 h20 W0).mono ?_
  rintro e w1 ⟨hb1, p, d, rfl, hr⟩
  have HS1 := Lib.hid (HS.out.keep hb1)
  have HR := Lib.hid hr
  have HB01 := Lib.hid (hb1.size)
  have HX0 : Hid (w.heap.size ≤ W0.heap.size) := Lib.hid HS.out.1.size
  generalize hAll : allS n = L at *
  have HAll := Lib.hid hAll
  clear hAll hb1 hr HS b0 b1
  have HF0 : Hid (ShAt W0.heap.size w1 (.slice none 0 0) [] (pickW M x (L.take 0)) w1) := Lib.hid (ShAt.start _ _)
  go_wp2
  go_loopw [5, 7] (fun s i wr => ∃ (k : Nat) (v : Value) (vs : List Value), v = s ∧ i = .int .i64 (k : Int) ∧ k ≤ L.length ∧ Hid (ShAt W0.heap.size w1 v vs (pickW M x (L.take k)) wr)) (fun _ i _ => L.length - (intOf i).toNat)
  case atStart => exact ⟨0, _, [], rfl, rfl, Nat.zero_le _, HF0⟩
  case round =>
    clear HF0
    obtain ⟨k, v, vs, rfl, rfl, hk, HF⟩ := hrel
    by_cases hlt : k < L.length
    · have i1 : (k : Int) < (L.length : Int) := by omega
      obtain ⟨b, off, q, cq, hpe, hbN, hck, hrk, hqB⟩ := rows_at HR.out hlt
      subst hpe
      have HB := Lib.hid (HS1.out.keep HF.out.1)
      have HRK := Lib.hid hrk
      have HQB := Lib.hid hqB
      have HP := Lib.hid (pick_take (M := M) (x := x) hlt)
      have HLk : Hid (L[k].length ≤ 20) := Lib.hid (HSh.out k hlt)
      have HCk : Hid (∀ W', Below wr.heap.size wr W' → W'.cell? ⟨b, off + k, none⟩ = some (.slice q L[k].length cq)) := Lib.hid fun W' hb => by
        have h1 := (HF.out.1.trans (hb.mono HF.out.1.size)).cell (p := ⟨b, off + k, none⟩) hbN
        rw [h1]; exact hck
      have hpl : (pickW M x (L.take k)).length ≤ 524288 := by
        have h1 := List.length_filter_le (fun s => decide (cutW M (inS s) = x)) (L.take k)
        rw [List.length_take] at h1
        unfold pickW
        omega
      clear hck hrk hqB
      generalize L[k] = l at *
      go_upto_region 6 with fail
      have HB1 := Lib.hid (HB.out.keep ((Below.refl _ _).drew))
      have HD1 : Hid (Below wr.heap.size wr wr.drew) := Lib.hid ((Below.refl _ _).drew)
      refine wp_region_held_drew (S := fun W' => (W'.cell? ⟨X, 0, none⟩ = some (.int .i64 (n : Int)) ∧ W'.cell? ⟨X, 1, none⟩ = some (.slice a M.length c)) ∧ W'.cell? ⟨b, off + k, none⟩ = some (.slice q l.length cq)) (by kernel_rfl) ⟨two_all HB1.out.2.1, HCk.out _ HD1.out⟩ (fun hHeld => ?_)
      refine wpAnyH_take (i := 0) (v := ?va0) rfl (by kernel_rfl) (by kernel_rfl) (by kernel_rfl) (fun _ _ _ h => h) (Or.inl ⟨by kernel_rfl, fun w' hSw => ?hya0⟩) (by assumption) ?resta0
      case hya0 => ((try dsimp only at hSw); go_simp; (try with_reducible rfl))
      simp only [Act.put]
      refine wpAnyH_take (i := 1) (v := ?va1) rfl (by kernel_rfl) (by kernel_rfl) (by kernel_rfl) (fun _ _ _ h => h) (Or.inl ⟨by kernel_rfl, fun w' hSw => ?hya1⟩) (by assumption) ?resta1
      case hya1 => ((try dsimp only at hSw); go_simp; (try with_reducible rfl))
      simp only [Act.put]
      refine wpAnyH_take (i := 2) (v := ?va2) rfl (by kernel_rfl) (by kernel_rfl) (by kernel_rfl) (fun _ _ _ h => h) (Or.inl ⟨by kernel_rfl, fun w' hSw => ?hya2⟩) (by assumption) ?resta2
      case hya2 => ((try dsimp only at hSw); go_simp; (try with_reducible rfl))
      simp only [Act.put]
      refine wpAnyH_take (i := 3) (v := ?va3) rfl (by kernel_rfl) (by kernel_rfl) (by kernel_rfl) (fun _ _ _ h => h) (Or.inl ⟨by kernel_rfl, fun w' hSw => ?hya3⟩) (by assumption) ?resta3
      case hya3 => ((try dsimp only at hSw); go_simp; (try with_reducible rfl))
      simp only [Act.put]
      refine wpAnyH_take (i := 4) (v := ?va4) rfl (by kernel_rfl) (by kernel_rfl) (by kernel_rfl) (fun _ _ _ h => h) (Or.inl ⟨by kernel_rfl, fun w' hSw => ?hya4⟩) (by assumption) ?resta4
      case hya4 => ((try dsimp only at hSw); go_simp; (try with_reducible rfl))
      simp only [Act.put]
      refine wpAnyH_take (i := 6) (v := ?va6) rfl (by kernel_rfl) (by kernel_rfl) (by kernel_rfl) (fun _ _ _ h => h) (Or.inl ⟨by kernel_rfl, fun w' hSw => ?hya6⟩) (by assumption) ?resta6
      case hya6 => ((try dsimp only at hSw); go_simp; (try with_reducible rfl))
      simp only [Act.put]
      refine wpAnyH_ready (rs := [5]) (by kernel_rfl) (by simp) ?_
      refine AllReadyH.cons rfl (fun K hK => ?_) AllReadyH.nil
      go_simp
      refine (HW.out q cq l (by have := HLk.out; omega) _ HB1.out.2.2 ((HRK.out.on (HF.out.1.trans (HD1.out.mono HF.out.1.size))).mono (Nat.le_trans HF.out.1.size HD1.out.size))).mono ?_
      rintro e y1 ⟨rfl, hb1⟩
      have HB2 := Lib.hid (HB1.out.keep hb1)
      have HD2 := Lib.hid (HD1.out.trans (hb1.mono HD1.out.size))
      clear hb1
      go_wp2_with fail
      refine hK.out _ _ ?hSa5 (fun hHeld => ?resta5)
      case hSa5 => exact ⟨two_all HB2.out.2.1, HCk.out _ HD2.out⟩
      clear hK K
      refine wpAnyH_take (i := 7) (v := ?va7) rfl (by kernel_rfl) (by kernel_rfl) (by kernel_rfl) (fun _ _ _ h => h) (Or.inl ⟨by kernel_rfl, fun w' hSw => ?hya7⟩) (by assumption) ?resta7
      case hya7 => ((try dsimp only at hSw); go_simp; (try with_reducible rfl))
      simp only [Act.put]
      refine wpAnyH_done (by kernel_rfl) ?_ _
      have HF2 := Lib.hid (HF.out.keep HD2.out)
      by_cases hx : cutW M (inS l) = x
      · have t1 : (cutW M (inS l) == x) = true := by simpa using hx
        have HP2 : Hid (pickW M x (L.take (k + 1)) = pickW M x (L.take k) ++ [l]) := Lib.hid (by rw [HP.out, if_pos hx])
        have HCk2 := HCk.out _ HD2.out
        have hbl := World.block_lt_of_cell? y1 _ HCk2
        have hsz := HF2.out.1.size
        clear hx HP HF HB HB1 HB2 HD1
        generalize pickW M x (L.take k) = G at *
        go_wp2_with (first
          | (at_builtin; refine wpList_append_own _ rfl _ _ 43 rfl w1.heap.size 28 tr (.slice none 0 0) 1 24 Tryz.underlying43 hr1 hr2 hr3 hr4 rfl (by decide) v G.length vs rfl (HF2.out.2.1.alloc _) ⟨y1.heap.size, 0, none⟩ 1 1 [.slice q l.length cq] rfl rfl one_news (by intro u hu; simp at hu; subst hu; rfl) (by unfold maxLen; omega) (by omega) (by simp; omega) ?_; intro v' w6 hown6 hg6 _; have HS6 := Lib.hid (HF2.out.push HRK.out HQB.out hown6 hg6); rw [← HP2.out] at HS6; clear hown6 hg6))
        go_roundw
        case rel => exact ⟨k + 1, v', _, rfl, by go_num, by omega, HS6⟩
        case measure => simp [intOf]; omega
      · have t1 : (cutW M (inS l) == x) = false := by simpa using hx
        have HP2 : Hid (pickW M x (L.take (k + 1)) = pickW M x (L.take k)) := Lib.hid (by rw [HP.out, if_neg hx, List.append_nil])
        clear hx HP HF HB HB1 HB2 HD1
        go_wp2
        go_roundw
        case rel => exact ⟨k + 1, v, vs, rfl, by go_num, by omega, by rw [HP2.out]; exact HF2⟩
        case measure => simp [intOf]; omega
    · have i1 : ¬ (k : Int) < (L.length : Int) := by omega
      have hke : k = L.length := by omega
      subst hke
      obtain ⟨q, cq, rfl, hq⟩ := HF.out.rows HB01.out
      rw [List.take_length] at hq ⊢
      have HRR := Lib.hid hq
      have HBB := Lib.hid (HS1.out.1.trans (HF.out.1.mono HS1.out.1.size))
      clear hq HF
      go_wp2
      go_ret
      rw [HAll.out]
      unfold RowsO
      exact ⟨HBB.out, q, cq, rfl, rows_mono HRR.out HX0.out⟩
end Go.Proofs.YtceejjgmepaonaaGreatDoor.Br
/- The document's least cut (layer 22). -/
namespace Go.Proofs.YtceejjgmepaonaaGreatDoor.Br
open Go.RowKit Go.ChangeShapes EdPure NtPure CutPure SdPure BrPure Cm Sd
def leastB (M : List Ed) (L : List (List Int)) : Option (Int × List Int) := L.foldl (stepB M) none
def wB : Option (Int × List Int) → Int
  | none => -1
  | some (b, _) => b
def sB : Option (Int × List Int) → List Int
  | none => []
  | some (_, s) => s
theorem leastB_take {M : List Ed} {L : List (List Int)} {k : Nat} (hk : k < L.length) : leastB M (L.take (k + 1)) = stepB M (leastB M (L.take k)) L[k] := by
  unfold leastB
  rw [List.take_succ_eq_append_getElem hk, List.foldl_append]
  rfl
theorem leastB_ok (M : List Ed) (L : List (List Int)) : OkB M (leastB M L) L := by
  have : ∀ k, k ≤ L.length → OkB M (leastB M (L.take k)) (L.take k) := by
    intro k
    induction k with
    | zero => intro _; exact rfl
    | succ k ih =>
      intro hk
      rw [leastB_take (by omega), List.take_succ_eq_append_getElem (by omega)]
      exact (ih (by omega)).step _
  have h := this L.length (Nat.le_refl _)
  rwa [List.take_length] at h
theorem leastB_pos {M : List Ed} (hn : NonNeg M) {L : List (List Int)} {b : Int} {s : List Int} (h : leastB M L = some (b, s)) : 0 ≤ b := by
  have h2 := leastB_ok M L
  rw [h] at h2
  rw [h2.2.1]
  exact cut_nonneg hn _
theorem step_none (M : List Ed) (x : List Int) : stepB M none x = some (cutW M (inS x), x) := rfl
theorem step_less {M : List Ed} {b : Int} {s x : List Int} (h : cutW M (inS x) < b) : stepB M (some (b, s)) x = some (cutW M (inS x), x) := if_pos h
theorem step_more {M : List Ed} {b : Int} {s x : List Int} (h : ¬ cutW M (inS x) < b) : stepB M (some (b, s)) x = some (b, s) := if_neg h
/-- A cut, or why there is none, as the document answers it. -/
def GotO (W : Int) (s : List Int) (E : Int) (w : World) (e : Ending) (w' : World) : Prop :=
  Below w.heap.size w w' ∧ ∃ q c, e = .returned (.agg #[.int .i64 W, .slice q s.length c, .int .i64 E]) ∧ ReadsL encZ w'.heap.size w' q s
/-- The best so far in its variable. -/
def BsAt (B0 : Nat) (W1 : World) (X : Nat) (best : Option (Int × List Int)) (wr : World) : Prop :=
  Below W1.heap.size W1 wr ∧ W1.heap.size ≤ X ∧ ∃ q c, TwoAt X wr (.int .i64 (wB best)) (.slice q (sB best).length c) ∧ ReadsL encZ W1.heap.size W1 q (sB best) ∧ ∀ z, q = some z → B0 ≤ z.block
theorem BsAt.keep {B0 : Nat} {W1 wr w' : World} {X : Nat} {best : Option (Int × List Int)} (h : BsAt B0 W1 X best wr) (hb : Below wr.heap.size wr w') : BsAt B0 W1 X best w' := by
  obtain ⟨h1, h2, q, c, h3, h4⟩ := h
  exact ⟨h1.trans (hb.mono h1.size), h2, q, c, h3.on hb h3.lt, h4⟩
theorem BsAt.store {B0 : Nat} {W1 wr : World} {X : Nat} {best : Option (Int × List Int)} (h : BsAt B0 W1 X best wr) {y : Int} {q : Option Addr} {l : List Int} {c : Nat} (hr : ReadsL encZ W1.heap.size W1 q l) (hq : ∀ z, q = some z → B0 ≤ z.block) :
    BsAt B0 W1 X (some (y, l)) ((wr.setCell ⟨X, 0, none⟩ (.int .i64 y)).setCell ⟨X, 1, none⟩ (.slice q l.length c)) := by
  obtain ⟨h1, h2, q0, c0, h3, h4⟩ := h
  exact ⟨(h1.setCell (p := ⟨X, 0, none⟩) h2 _).setCell (p := ⟨X, 1, none⟩) h2 _, h2, q, c, h3.set _ _, hr, hq⟩
theorem BsAt.new {B0 : Nat} {W1 : World} {T : TypeId} : BsAt B0 W1 W1.heap.size none (W1.alloc (.cells #[.int .i64 (-1), .slice none 0 0] T)) :=
  ⟨(Below.refl _ _).alloc (Nat.le_refl _) _, Nat.le_refl _, none, 0, TwoAt.new _ _ _ _, Or.inl rfl, fun z h => by cases h⟩
theorem three_res {R B : Nat} {w wr : World} {x y z : Value} (hb : Below B w wr) (ht : ThreeAt R wr x y z) (hR : B ≤ R) (x' y' z' : Value) :
    Below B w (((wr.setCell ⟨R, 0, none⟩ x').setCell ⟨R, 1, none⟩ y').setCell ⟨R, 2, none⟩ z') ∧ ThreeAt R (((wr.setCell ⟨R, 0, none⟩ x').setCell ⟨R, 1, none⟩ y').setCell ⟨R, 2, none⟩ z') x' y' z' :=
  ⟨((hb.setCell (p := ⟨R, 0, none⟩) hR x').setCell (p := ⟨R, 1, none⟩) hR y').setCell (p := ⟨R, 2, none⟩) hR z', ht.set x' y' z'⟩
/-- What lies in later blocks is still read. -/
theorem reads_beside {α : Type} {enc : α → Value} {R : Nat} {wr : World} {q : Option Addr} {l : List α} (hr : ReadsL enc wr.heap.size wr q l) (hq : ∀ z, q = some z → R < z.block) (x y z : Value) :
    ReadsL enc (((wr.setCell ⟨R, 0, none⟩ x).setCell ⟨R, 1, none⟩ y).setCell ⟨R, 2, none⟩ z).heap.size (((wr.setCell ⟨R, 0, none⟩ x).setCell ⟨R, 1, none⟩ y).setCell ⟨R, 2, none⟩ z) q l :=
  reads_past (M := R + 1) hr (fun z hz => hq z hz) (by simp) fun k hk _ => by
    rw [Below.heap_setCell _ _ _ _ (show k ≠ R by omega), Below.heap_setCell _ _ _ _ (show k ≠ R by omega), Below.heap_setCell _ _ _ _ (show k ≠ R by omega)]
theorem got_agg {W W' E E' : Int} {q : Option Addr} {n n' c : Nat} (h1 : W = W') (h2 : n = n') (h3 : E = E') : Ending.returned (.agg #[.int .i64 W, .slice q n c, .int .i64 E]) = .returned (.agg #[.int .i64 W', .slice q n' c, .int .i64 E']) := by rw [h1, h2, h3]
set_option maxRecDepth 100000 in
set_option maxHeartbeats 4000000 in
theorem refLeast_any (n : Nat) (hn20 : n ≤ 20) (hn2 : 2 ≤ n) (a : Option Addr) (c : Nat) (M : List Ed) (hm : M.length ≤ 100000) (hn : NonNeg M) (ha : allW M ≤ 2251799813685248) (w : World) (hR : ReadsE w.heap.size w a M) :
    Calls Tryz.prog 8 #[.agg #[.int .i64 (n : Int), .slice a M.length c]] w fun e w' => GotO (wB (leastB M (allS n))) (sB (leastB M (allS n))) 0 w e w' := by
  have HS : Hid (BoxSt w w.heap.size (n : Int) a c M (w.alloc (.cells #[.int .i64 (n : Int), .slice a M.length c] 34))) := Lib.hid (BoxSt.start hR)
  have hbA : Below (w.alloc (.cells #[.int .i64 (n : Int), .slice a M.length c] 34)).heap.size (w.alloc (.cells #[.int .i64 (n : Int), .slice a M.length c] 34)) ((w.alloc (.cells #[.int .i64 (n : Int), .slice a M.length c] 34)).alloc (.cells #[.int .i64 0, .slice none 0 0, .int .i64 0] 39)) := (Below.refl _ _).alloc (Nat.le_refl _) _
  have HT : Hid (ThreeAt (w.heap.size + 1) ((w.alloc (.cells #[.int .i64 (n : Int), .slice a M.length c] 34)).alloc (.cells #[.int .i64 0, .slice none 0 0, .int .i64 0] 39)) (.int .i64 0) (.slice none 0 0) (.int .i64 0)) := Lib.hid (by
    have h := ThreeAt.new (w.alloc (.cells #[.int .i64 (n : Int), .slice a M.length c] 34)) (.int .i64 0) (.slice none 0 0) (.int .i64 0) 39
    have e : (w.alloc (.cells #[.int .i64 (n : Int), .slice a M.length c] 34)).heap.size = w.heap.size + 1 := by simp
    rwa [e] at h)
  have HS0 := Lib.hid (HS.out.keep hbA)
  have HW := Lib.hid (fun b d l hl w hR hS => refWeight_any (n : Int) a c M hm hn ha b d l hl w hR hS)
  have HFew := all_few hn20
  have HSh := Lib.hid (fun k hk => all_short (k := k) hn20 hk)
  have HNN := Lib.hid hn
  have HX0 : Hid (smallE (n : Int) = 0) := Lib.hid (by unfold smallE; rw [if_neg (by omega), if_neg (by omega)])
  clear hR hbA HS hn
  go_enter Tryz.func8, Tryz.ntmps8
  go_upto_region 1 with fail
  generalize (w.alloc (.cells #[.int .i64 (n : Int), .slice a M.length c] 34)).alloc (.cells #[.int .i64 0, .slice none 0 0, .int .i64 0] 39) = W0 at *
  generalize hX : w.heap.size = X at *
  have HX := Lib.hid hX
  clear hX
  obtain ⟨b0, b1, -, -⟩ := HS0.out.2.1
  go_wp2_with fail
  refine (refSmall_any (n : Int) W0).mono ?_
  rw [HX0.out]
  rintro e w0 ⟨rfl, rfl⟩
  go_wp2_with fail
  refine (refSides_any n hn2 hn20 W0).mono ?_
  rintro e w1 ⟨hb1, p, d, rfl, hr⟩
  have HS1 := Lib.hid (HS0.out.keep hb1)
  have HT1 := Lib.hid (HT.out.on hb1 HT.out.lt)
  have HR := Lib.hid hr
  have HT0L := Lib.hid HT.out.lt
  have HRW : Hid (X + 1 < w1.heap.size) := Lib.hid HT1.out.lt
  generalize hAll : allS n = L at *
  have HAll := Lib.hid hAll
  clear hAll hb1 hr HS0 HT b0 b1 HX0
  have HF0 : Hid (BsAt W0.heap.size w1 w1.heap.size (leastB M (L.take 0)) (w1.alloc (.cells #[.int .i64 (-1), .slice none 0 0] 30))) := Lib.hid BsAt.new
  go_upto_region 6 with fail
  generalize w1.alloc (.cells #[.int .i64 (-1), .slice none 0 0] 30) = W2 at *
  generalize hBX : w1.heap.size = BX at *
  have HBX := Lib.hid hBX
  clear hBX
  go_wp2
  go_loopw [6] (fun i wr => ∃ k : Nat, i = .int .i64 (k : Int) ∧ k ≤ L.length ∧ Hid (BsAt W0.heap.size w1 BX (leastB M (L.take k)) wr)) (fun i _ => L.length - (intOf i).toNat)
  case atStart => exact ⟨0, rfl, Nat.zero_le _, HF0⟩
  case round =>
    clear HF0
    obtain ⟨k, rfl, hk, HF⟩ := hrel
    by_cases hlt : k < L.length
    · have i1 : (k : Int) < (L.length : Int) := by omega
      obtain ⟨b, off, q, cq, hpe, hbN, hck, hrk, hqB⟩ := rows_at HR.out hlt
      subst hpe
      have HB := Lib.hid (HS1.out.keep HF.out.1)
      have HRK := Lib.hid hrk
      have HQB := Lib.hid hqB
      have HLk : Hid (L[k].length ≤ 20) := Lib.hid (HSh.out k hlt)
      have HCk : Hid (∀ W', Below w1.heap.size w1 W' → W'.cell? ⟨b, off + k, none⟩ = some (.slice q L[k].length cq)) := Lib.hid fun W' hb => (hb.cell (p := ⟨b, off + k, none⟩) hbN).trans hck
      have HN := Lib.hid (leastB_take (M := M) hlt)
      have HPO := Lib.hid (fun b s h => leastB_pos HNN.out (L := L.take k) (b := b) (s := s) h)
      clear hck hrk hqB
      generalize leastB M (L.take k) = best at *
      generalize L[k] = l at *
      go_upto_region 9 with fail
      have HD1 : Hid (Below wr.heap.size wr wr.drew) := Lib.hid ((Below.refl _ _).drew)
      have HB1 := Lib.hid (HB.out.keep HD1.out)
      have HF1 := Lib.hid (HF.out.keep HD1.out)
      refine wp_region_held_drew (S := fun W' => (W'.cell? ⟨X, 0, none⟩ = some (.int .i64 (n : Int)) ∧ W'.cell? ⟨X, 1, none⟩ = some (.slice a M.length c)) ∧ W'.cell? ⟨b, off + k, none⟩ = some (.slice q l.length cq)) (by kernel_rfl) ⟨two_all HB1.out.2.1, HCk.out _ HF1.out.1⟩ (fun hHeld => ?_)
      refine wpAnyH_take (i := 0) (v := ?va0) rfl (by kernel_rfl) (by kernel_rfl) (by kernel_rfl) (fun _ _ _ h => h) (Or.inl ⟨by kernel_rfl, fun w' hSw => ?hya0⟩) (by assumption) ?resta0
      case hya0 => ((try dsimp only at hSw); go_simp; (try with_reducible rfl))
      simp only [Act.put]
      refine wpAnyH_take (i := 1) (v := ?va1) rfl (by kernel_rfl) (by kernel_rfl) (by kernel_rfl) (fun _ _ _ h => h) (Or.inl ⟨by kernel_rfl, fun w' hSw => ?hya1⟩) (by assumption) ?resta1
      case hya1 => ((try dsimp only at hSw); go_simp; (try with_reducible rfl))
      simp only [Act.put]
      refine wpAnyH_take (i := 2) (v := ?va2) rfl (by kernel_rfl) (by kernel_rfl) (by kernel_rfl) (fun _ _ _ h => h) (Or.inl ⟨by kernel_rfl, fun w' hSw => ?hya2⟩) (by assumption) ?resta2
      case hya2 => ((try dsimp only at hSw); go_simp; (try with_reducible rfl))
      simp only [Act.put]
      refine wpAnyH_take (i := 3) (v := ?va3) rfl (by kernel_rfl) (by kernel_rfl) (by kernel_rfl) (fun _ _ _ h => h) (Or.inl ⟨by kernel_rfl, fun w' hSw => ?hya3⟩) (by assumption) ?resta3
      case hya3 => ((try dsimp only at hSw); go_simp; (try with_reducible rfl))
      simp only [Act.put]
      refine wpAnyH_take (i := 4) (v := ?va4) rfl (by kernel_rfl) (by kernel_rfl) (by kernel_rfl) (fun _ _ _ h => h) (Or.inl ⟨by kernel_rfl, fun w' hSw => ?hya4⟩) (by assumption) ?resta4
      case hya4 => ((try dsimp only at hSw); go_simp; (try with_reducible rfl))
      simp only [Act.put]
      refine wpAnyH_ready (rs := [5]) (by kernel_rfl) (by simp) ?_
      refine AllReadyH.cons rfl (fun K hK => ?_) AllReadyH.nil
      go_simp
      refine (HW.out q cq l (by have := HLk.out; omega) _ HB1.out.2.2 ((HRK.out.on HF1.out.1).mono HF1.out.1.size)).mono ?_
      rintro e y1 ⟨rfl, hb1⟩
      have HB2 := Lib.hid (HB1.out.keep hb1)
      have HF2 := Lib.hid (HF1.out.keep hb1)
      clear hb1
      go_wp2_with fail
      refine hK.out _ _ ?hSa5 (fun hHeld => ?resta5)
      case hSa5 => exact ⟨two_all HB2.out.2.1, HCk.out _ HF2.out.1⟩
      clear hK K
      refine wpAnyH_ready (rs := [6]) (by kernel_rfl) (by simp) ?_
      refine AllReadyH.cons rfl (fun K hK => ?_) AllReadyH.nil
      go_simp
      refine hK.out _ _ (by assumption) (fun hHeld => ?_)
      clear hK K
      refine wpAnyH_done (by kernel_rfl) ?_ _
      have HCk2 := HCk.out _ HF2.out.1
      have hbl := World.block_lt_of_cell? y1 _ HCk2
      have hXl : BX < y1.heap.size := by obtain ⟨-, -, q1, c1, h3, -⟩ := HF2.out; exact h3.lt
      have fin : ∀ best', leastB M (L.take (k + 1)) = best' → ∀ V, BsAt W0.heap.size w1 BX best' V → Hid (BsAt W0.heap.size w1 BX (leastB M (L.take (k + 1))) V) := fun b' e V h => Lib.hid (by rw [e]; exact h)
      have FIN := Lib.hid fin
      clear fin HB HB1 HB2 HD1 HF HF1 hHeld
      generalize hy : cutW M (inS l) = y at *
      have HY := Lib.hid hy
      clear hy
      cases best with
      | none =>
        have HE : Hid (leastB M (L.take (k + 1)) = some (y, l)) := Lib.hid (by rw [HN.out, step_none, HY.out])
        have HST := Lib.hid (HF2.out.store (y := y) (c := cq) HRK.out HQB.out)
        obtain ⟨-, -, q1, c1, ⟨m0, m1, g0, g1⟩, -⟩ := HF2.out
        unfold wB at m0
        have HST2 := FIN.out _ HE.out _ HST.out
        clear HF2
        go_wp2
        go_roundw
        case rel => exact ⟨k + 1, by go_num, hlt, HST2⟩
        case measure => simp [intOf]; omega
      | some p =>
        obtain ⟨bb, s⟩ := p
        have hb0 : ¬ bb < 0 := by have := HPO.out bb s rfl; omega
        by_cases hyb : y < bb
        · have HE : Hid (leastB M (L.take (k + 1)) = some (y, l)) := Lib.hid (by rw [HN.out, step_less (by rw [HY.out]; exact hyb), HY.out])
          have HST := Lib.hid (HF2.out.store (y := y) (c := cq) HRK.out HQB.out)
          obtain ⟨-, -, q1, c1, ⟨m0, m1, g0, g1⟩, -⟩ := HF2.out
          unfold wB at m0
          have HST2 := FIN.out _ HE.out _ HST.out
          clear HF2
          go_wp2
          go_roundw
          case rel => exact ⟨k + 1, by go_num, hlt, HST2⟩
          case measure => simp [intOf]; omega
        · have HE : Hid (leastB M (L.take (k + 1)) = some (bb, s)) := Lib.hid (by rw [HN.out, step_more (by rw [HY.out]; exact hyb)])
          have HST2 := FIN.out _ HE.out _ HF2.out
          obtain ⟨-, -, q1, c1, ⟨m0, m1, g0, g1⟩, -⟩ := HF2.out
          unfold wB at m0
          clear HF2
          go_wp2
          go_roundw
          case rel => exact ⟨k + 1, by go_num, hlt, HST2⟩
          case measure => simp [intOf]; omega
    · have i1 : ¬ (k : Int) < (L.length : Int) := by omega
      have hke : k = L.length := by omega
      subst hke
      obtain ⟨hb1, hb2, q1, c1, ⟨m0, m1, g0, g1⟩, hrd, hqq⟩ := HF.out
      rw [List.take_length] at m0 m1 hrd
      have HTR := Lib.hid (HT1.out.on hb1 (by have := HBX.out; have := HRW.out; omega))
      have HBW := Lib.hid (HS1.out.1.trans (hb1.mono HS1.out.1.size))
      have HRD := Lib.hid ((hrd.on hb1).mono hb1.size)
      have HQQ := Lib.hid hqq
      obtain ⟨r0, r1, r2, e0, e1, e2⟩ := HTR.out
      have rl := HTR.out.lt
      have hXl : BX < wr.heap.size := World.block_lt_of_cell? wr _ m0
      have HXX := HX.out
      clear hb1 hb2 hrd hqq HF
      generalize hbst : leastB M L = best at *
      have HBST := Lib.hid hbst
      clear hbst
      go_wp2
      have hres := three_res HBW.out HTR.out (by omega) (.int .i64 (wB best)) (.slice q1 (sB best).length c1) (.int .i64 0)
      obtain ⟨d0, d1, d2, -⟩ := hres.2
      refine bodyPost_ret (v := .agg #[.int .i64 (wB best), .slice q1 (sB best).length c1, .int .i64 0]) (by simp [results, Tryz.results8, go_sem, d0, d1, d2]) rfl ?_
      unfold GotO
      rw [HAll.out, HBST.out]
      exact ⟨hres.1, q1, c1, rfl, reads_beside HRD.out (fun z hz => by have h1 := HQQ.out z hz; have h2 := HT0L.out; omega) _ _ _⟩
end Go.Proofs.YtceejjgmepaonaaGreatDoor.Br
