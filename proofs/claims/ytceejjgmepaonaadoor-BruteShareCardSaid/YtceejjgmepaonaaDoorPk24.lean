/- The document's least cut between two (layer 22). -/
import Derived.Test.YtceejjgmepaonaaDoorPk23
import Derived.BigQuiet
namespace Go.Proofs.YtceejjgmepaonaaDoor.Br
open Go.RowKit Go.ChangeShapes EdPure NtPure CutPure SdPure BrPure Cm Sd
def pairB (M : List Ed) (n : Nat) (s t : Int) (L : List (List Int)) : Option (Int × List Int) := L.foldl (stepP M n s t) none
theorem pairB_take {M : List Ed} {n : Nat} {s t : Int} {L : List (List Int)} {k : Nat} (hk : k < L.length) : pairB M n s t (L.take (k + 1)) = stepP M n s t (pairB M n s t (L.take k)) L[k] := by
  unfold pairB
  rw [List.take_succ_eq_append_getElem hk, List.foldl_append]
  rfl
theorem pairB_ok (M : List Ed) (n : Nat) (s t : Int) (L : List (List Int)) : OkP M n s t (pairB M n s t L) L := by
  have : ∀ k, k ≤ L.length → OkP M n s t (pairB M n s t (L.take k)) (L.take k) := by
    intro k
    induction k with
    | zero => intro _ x hx; simp at hx
    | succ k ih =>
      intro hk
      rw [pairB_take (by omega), List.take_succ_eq_append_getElem (by omega)]
      exact (ih (by omega)).step _
  have h := this L.length (Nat.le_refl _)
  rwa [List.take_length] at h
theorem pairB_pos {M : List Ed} (hn : NonNeg M) {n : Nat} {s t : Int} {L : List (List Int)} {b : Int} {c : List Int} (h : pairB M n s t L = some (b, c)) : 0 ≤ b := by
  have h2 := pairB_ok M n s t L
  rw [h] at h2
  obtain ⟨⟨x, -, -, e⟩, -⟩ := h2
  rw [← e]
  exact cut_nonneg hn _
theorem stepP_same {M : List Ed} {n : Nat} {s t : Int} {best : Option (Int × List Int)} {x : List Int} (h : inS x s = inS x t) : stepP M n s t best x = best := by
  unfold stepP parted
  rw [h]
  simp
theorem stepP_new {M : List Ed} {n : Nat} {s t : Int} {best : Option (Int × List Int)} {x : List Int} (h : inS x s ≠ inS x t) (hb : best = none ∨ ∃ b c, best = some (b, c) ∧ cutW M (inS (orient n s x)) < b) :
    stepP M n s t best x = some (cutW M (inS (orient n s x)), orient n s x) := by
  unfold stepP parted
  rw [if_neg (by simpa using h)]
  rcases hb with rfl | ⟨b, c, rfl, hlt⟩
  · rfl
  · exact if_pos hlt
theorem stepP_eq {M : List Ed} {n : Nat} {s t : Int} {b : Int} {c x : List Int} (h : inS x s ≠ inS x t) (hb : cutW M (inS (orient n s x)) = b) :
    stepP M n s t (some (b, c)) x = some (b, (orient n s x).filter (fun v => inS c v)) := by
  unfold stepP parted
  rw [if_neg (by simpa using h)]
  show (if _ then _ else _) = _
  rw [if_neg (by omega), if_pos hb]
theorem stepP_more {M : List Ed} {n : Nat} {s t : Int} {b : Int} {c x : List Int} (h : inS x s ≠ inS x t) (hb : b < cutW M (inS (orient n s x))) : stepP M n s t (some (b, c)) x = some (b, c) := by
  unfold stepP parted
  rw [if_neg (by simpa using h)]
  show (if _ then _ else _) = _
  rw [if_neg (by omega), if_neg (by omega)]
/-- The best so far in its variable; its side lies beside it. -/
def BpAt (B0 : Nat) (W1 : World) (X : Nat) (best : Option (Int × List Int)) (wr : World) : Prop :=
  Below W1.heap.size W1 wr ∧ W1.heap.size ≤ X ∧ (sB best).length ≤ 1000 ∧ ∃ q c, TwoAt X wr (.int .i64 (wB best)) (.slice q (sB best).length c) ∧ ReadsL encZ wr.heap.size wr q (sB best) ∧ ∀ z, q = some z → B0 ≤ z.block ∧ z.block ≠ X
theorem BpAt.keep {B0 : Nat} {W1 wr w' : World} {X : Nat} {best : Option (Int × List Int)} (h : BpAt B0 W1 X best wr) (hb : Below wr.heap.size wr w') : BpAt B0 W1 X best w' := by
  obtain ⟨h1, h2, h0, q, c, h3, h4, h5⟩ := h
  exact ⟨h1.trans (hb.mono h1.size), h2, h0, q, c, h3.on hb h3.lt, h4.over hb (Nat.le_refl _), h5⟩
theorem reads_ne {α : Type} {enc : α → Value} {X : Nat} {o : Nat} {wr : World} {q : Option Addr} {l : List α} (hr : ReadsL enc wr.heap.size wr q l) (hq : ∀ z, q = some z → z.block ≠ X) (x : Value) :
    ReadsL enc (wr.setCell ⟨X, o, none⟩ x).heap.size (wr.setCell ⟨X, o, none⟩ x) q l := by
  rcases hr with h | ⟨b, off, rfl, hN, hc⟩
  · exact Or.inl h
  · refine Or.inr ⟨b, off, rfl, by simpa using hN, fun i hi => ?_⟩
    rw [World.cell?_setCell_other _ ⟨X, o, none⟩ ⟨b, off + i, none⟩ _ (fun e => hq _ rfl (congrArg Addr.block e).symm)]
    exact hc i hi
theorem BpAt.store {B0 : Nat} {W1 wr : World} {X : Nat} {best : Option (Int × List Int)} (h : BpAt B0 W1 X best wr) {y : Int} {q : Option Addr} {l : List Int} {c : Nat} (hr : ReadsL encZ wr.heap.size wr q l) (hq : ∀ z, q = some z → B0 ≤ z.block ∧ z.block ≠ X) (hl : l.length ≤ 1000) :
    BpAt B0 W1 X (some (y, l)) ((wr.setCell ⟨X, 0, none⟩ (.int .i64 y)).setCell ⟨X, 1, none⟩ (.slice q l.length c)) := by
  obtain ⟨h1, h2, h0, q0, c0, h3, h4, h5⟩ := h
  exact ⟨(h1.setCell (p := ⟨X, 0, none⟩) h2 _).setCell (p := ⟨X, 1, none⟩) h2 _, h2, hl, q, c, h3.set _ _, reads_ne (reads_ne hr (fun z hz => (hq z hz).2) _) (fun z hz => (hq z hz).2) _, hq⟩
theorem BpAt.side {B0 : Nat} {W1 wr : World} {X : Nat} {y : Int} {s0 : List Int} (h : BpAt B0 W1 X (some (y, s0)) wr) {q : Option Addr} {l : List Int} {c : Nat} (hr : ReadsL encZ wr.heap.size wr q l) (hq : ∀ z, q = some z → B0 ≤ z.block ∧ z.block ≠ X) (hl : l.length ≤ 1000) :
    BpAt B0 W1 X (some (y, l)) (wr.setCell ⟨X, 1, none⟩ (.slice q l.length c)) := by
  obtain ⟨h1, h2, h0, q0, c0, ⟨k0, k1, f0, f1⟩, h4, h5⟩ := h
  refine ⟨h1.setCell (p := ⟨X, 1, none⟩) h2 _, h2, hl, q, c, ⟨?_, ?_, ?_, ?_⟩, reads_ne hr (fun z hz => (hq z hz).2) _, hq⟩
  · exact (World.cell?_setCell_other wr ⟨X, 1, none⟩ ⟨X, 0, none⟩ _ (by simp)).trans k0
  · exact World.cell?_setCell_same _ _ _ k1
  · simpa using f0
  · simpa using f1
theorem BpAt.new {B0 : Nat} {W1 : World} {T : TypeId} : BpAt B0 W1 W1.heap.size none (W1.alloc (.cells #[.int .i64 (-1), .slice none 0 0] T)) :=
  ⟨(Below.refl _ _).alloc (Nat.le_refl _) _, Nat.le_refl _, Nat.zero_le _, none, 0, TwoAt.new _ _ _ _, Or.inl rfl, fun z h => by cases h⟩
theorem filt_take {x : List Int} {p : Int → Bool} {k : Nat} (hk : k < x.length) : (x.take (k + 1)).filter p = (x.take k).filter p ++ (if p x[k] = true then [x[k]] else []) := by
  rw [List.take_succ_eq_append_getElem hk, List.filter_append]
  by_cases h : p x[k] = true
  · rw [if_pos h]; simp [h]
  · rw [if_neg h]; simp [h]
/-- An answer whose list lies no elder than the call. -/
def GotN (W : Int) (s : List Int) (E : Int) (w : World) (e : Ending) (w' : World) : Prop :=
  Below w.heap.size w w' ∧ ∃ q c, e = .returned (.agg #[.int .i64 W, .slice q s.length c, .int .i64 E]) ∧ ReadsL encZ w'.heap.size w' q s ∧ ∀ z, q = some z → w.heap.size ≤ z.block
theorem GotN.old {W : Int} {s : List Int} {E : Int} {w w' : World} {e : Ending} (h : GotN W s E w e w') : GotO W s E w e w' := by
  obtain ⟨h1, q, c, h2, h3, -⟩ := h
  exact ⟨h1, q, c, h2, h3⟩
set_option maxRecDepth 100000 in
set_option maxHeartbeats 16000000 in
theorem refPairN_any (n : Nat) (hn20 : n ≤ 20) (a : Option Addr) (c : Nat) (M : List Ed) (hm : M.length ≤ 100000) (hn : NonNeg M) (ha : allW M ≤ 2251799813685248) (s t : Int) (hs : 0 ≤ s ∧ s < n) (ht : 0 ≤ t ∧ t < n) (hst : s ≠ t) (w : World) (hR : ReadsE w.heap.size w a M) :
    Calls Tryd.prog 9 #[.agg #[.int .i64 (n : Int), .slice a M.length c], .int .i64 s, .int .i64 t] w fun e w' => GotN (wB (pairB M n s t (allS n))) (sB (pairB M n s t (allS n))) 0 w e w' := by
  have HX0 : Hid (bothE (n : Int) s t = 0) := Lib.hid (by unfold bothE; rw [if_pos (by omega), if_neg hst])
  have hn2 : 2 ≤ n := by omega
  have HS := Lib.hid (box_res (n := (n : Int)) (c := c) hR 40)
  have HM := Lib.hid (fun w => refBoth_any (n : Int) s t w)
  rw [HX0.out] at HM
  have HI := Lib.hid (fun b d l hl v w hR => in_any b d l hl v w hR)
  have HO := Lib.hid (fun b d l hl w hS => refOtherO_any n (by omega) b d l hl w hS)
  have HW := Lib.hid (fun b d l hl w hR hS => refWeight_any (n : Int) a c M hm hn ha b d l hl w hR hS)
  have HFew := all_few hn20
  have HSh := Lib.hid (fun k hk => all_short (k := k) hn20 hk)
  have HNN := Lib.hid hn
  have HNE : Hid (∀ k (hk : k < (allS n).length), (allS n)[k] ≠ []) := Lib.hid fun k hk => (chkS_ok (all_right (List.getElem_mem hk)).1).2.1
  have HST := Lib.hid (And.intro hs ht)
  obtain ⟨ti, hi1, hi2, hi3, hi4⟩ := info_int
  clear hR hn hs ht HX0
  go_enter Tryd.func9, Tryd.ntmps9
  go_upto_region 1 with fail
  generalize (w.alloc (.cells #[.int .i64 (n : Int), .slice a M.length c] 35)).alloc (.cells #[.int .i64 0, .slice none 0 0, .int .i64 0] 40) = W0 at *
  generalize hX : w.heap.size = X at *
  have HX := Lib.hid hX
  clear hX
  obtain ⟨b0, b1, -, -⟩ := HS.out.1.2.1
  go_wp2_with fail
  refine (HM.out W0).mono ?_
  rintro e w0 ⟨rfl, rfl⟩
  go_wp2_with fail
  refine (refSides_any n hn2 hn20 W0).mono ?_
  rintro e w1 ⟨hb1, p, d, rfl, hr⟩
  have HS1 := Lib.hid (HS.out.1.keep hb1)
  have HT1 := Lib.hid (HS.out.2.on hb1 HS.out.2.lt)
  have HR := Lib.hid hr
  have HT0L := Lib.hid HS.out.2.lt
  have HB01 := Lib.hid hb1.size
  have HRW : Hid (X + 1 < w1.heap.size) := Lib.hid HT1.out.lt
  generalize hAll : allS n = L at *
  have HAll := Lib.hid hAll
  clear hAll hb1 hr HS b0 b1 HM
  have HF0 : Hid (BpAt W0.heap.size w1 w1.heap.size (pairB M n s t (L.take 0)) (w1.alloc (.cells #[.int .i64 (-1), .slice none 0 0] 31))) := Lib.hid BpAt.new
  go_upto_region 8 with fail
  generalize w1.alloc (.cells #[.int .i64 (-1), .slice none 0 0] 31) = W2 at *
  generalize hBX : w1.heap.size = BX at *
  have HBX := Lib.hid hBX
  clear hBX
  go_wp2
  go_loopw [10] (fun i wr => ∃ k : Nat, i = .int .i64 (k : Int) ∧ k ≤ L.length ∧ Hid (BpAt W0.heap.size w1 BX (pairB M n s t (L.take k)) wr)) (fun i _ => L.length - (intOf i).toNat)
  case atStart => exact ⟨0, rfl, Nat.zero_le _, HF0⟩
  case round =>
    clear HF0
    obtain ⟨k, rfl, hk, HF⟩ := hrel
    by_cases hlt : k < L.length
    · have i1 : (k : Int) < (L.length : Int) := by omega
      obtain ⟨b, off, q, cq, hpe, hbN, hck, hrk, hqB⟩ := rows_at HR.out hlt
      subst hpe
      have hbr : b < wr.heap.size := Nat.lt_of_lt_of_le hbN HF.out.1.size
      have hckr := (HF.out.1.cell (p := ⟨b, off + k, none⟩) hbN).trans hck
      have HRK : Hid (ReadsL encZ wr.heap.size wr q L[k]) := Lib.hid ((hrk.on HF.out.1).mono HF.out.1.size)
      have HQB : Hid (∀ z, q = some z → W0.heap.size ≤ z.block ∧ z.block ≠ BX) := Lib.hid fun z hz => ⟨hqB z hz, by
        rcases hrk with h | ⟨b', off', e, hN', -⟩
        · exact absurd h (HNE.out k hlt)
        · rw [hz] at e
          cases e
          have := HBX.out
          show b' ≠ BX
          omega⟩
      have HLk : Hid (L[k].length ≤ 20) := Lib.hid (HSh.out k hlt)
      have HB := Lib.hid (HS1.out.keep HF.out.1)
      have HN := Lib.hid (pairB_take (M := M) (n := n) (s := s) (t := t) hlt)
      have HPO := Lib.hid (fun b c h => pairB_pos HNN.out (n := n) (s := s) (t := t) (L := L.take k) (b := b) (c := c) h)
      clear hck hrk hqB
      generalize pairB M n s t (L.take k) = best at *
      generalize L[k] = l at *
      have fin : ∀ best', pairB M n s t (L.take (k + 1)) = best' → ∀ V, BpAt W0.heap.size w1 BX best' V → Hid (BpAt W0.heap.size w1 BX (pairB M n s t (L.take (k + 1))) V) := fun b' e V h => Lib.hid (by rw [e]; exact h)
      have FIN := Lib.hid fin
      clear fin
      obtain ⟨p1, hp1⟩ : ∃ p1, inS l s = p1 := ⟨_, rfl⟩
      obtain ⟨p2, hp2⟩ : ∃ p2, inS l t = p2 := ⟨_, rfl⟩
      have HI1 := Lib.hid (HI.out q cq l (by have := HLk.out; omega) s wr HRK.out)
      have HI2 := Lib.hid (HI.out q cq l (by have := HLk.out; omega) t wr HRK.out)
      rw [hp1] at HI1
      rw [hp2] at HI2
      have HP1 := Lib.hid hp1
      have HP2 := Lib.hid hp2
      clear hp1 hp2
      have HORT : Hid (p1 = true → orient n s l = l) := Lib.hid (fun e => by unfold orient; rw [if_pos (by rw [HP1.out, e])])
      have HORF : Hid (p1 = false → orient n s l = othL l n) := Lib.hid (fun e => by unfold orient; rw [if_neg (by rw [HP1.out, e]; decide)])
      have SAME : p1 = p2 → Hid (BpAt W0.heap.size w1 BX (pairB M n s t (L.take (k + 1))) wr) := fun e => FIN.out best (by rw [HN.out, stepP_same (by rw [HP1.out, HP2.out, e])]) _ HF.out
      have DIFF : Hid (p1 ≠ p2 → inS l s ≠ inS l t) := Lib.hid (fun e => by rw [HP1.out, HP2.out]; exact e)
      cases p1 <;> cases p2
      · have HST2 := SAME rfl
        clear SAME
        go_wp2_with fail
        refine HI1.out.mono ?_
        rintro e v1 ⟨rfl, rfl⟩
        go_wp2_with fail
        refine HI2.out.mono ?_
        rintro e v1 ⟨rfl, rfl⟩
        go_wp2
        go_roundw
        case rel => exact ⟨k + 1, by go_num, hlt, HST2⟩
        case measure => simp [intOf]; omega
      · clear SAME
        have HOR := Lib.hid (HORF.out rfl)
        have HDI := Lib.hid (DIFF.out (by decide))
        obtain ⟨d0, d1, -, -⟩ := HB.out.2.1
        have dl := HB.out.2.1.lt
        go_wp2_with fail
        refine HI1.out.mono ?_
        rintro e v1 ⟨rfl, rfl⟩
        go_wp2_with fail
        refine HI2.out.mono ?_
        rintro e v1 ⟨rfl, rfl⟩
        go_wp2_with fail
        refine HI1.out.mono ?_
        rintro e v1 ⟨rfl, rfl⟩
        go_wp2_with fail
        refine (HO.out q cq l (by have := HLk.out; omega) _ HRK.out).mono ?_
        rintro e v2 ⟨hbv, sv, rfl, hov⟩
        have hol := oth_len l n
        have HOWN := Lib.hid hov
        obtain ⟨q2, c2, rfl, hr2, -⟩ := owns_readsL rfl hov
        have HF1 := Lib.hid (HF.out.keep hbv)
        have HB1 := Lib.hid (HB.out.keep hbv)
        have HR1 : Hid (ReadsL encZ v2.heap.size v2 q2 (othL l n)) := Lib.hid hr2
        have HQ1 : Hid (∀ z, q2 = some z → W0.heap.size ≤ z.block ∧ z.block ≠ BX) := Lib.hid fun z hz => by
          have h1 := (HOWN.out.lt z.block (by rw [hz]; rfl)).1
          obtain ⟨u1, u2, -, q9, c9, u3, -⟩ := HF.out
          have h3 := u3.lt
          have h4 := u1.size
          have h5 := HB01.out
          have h6 := HBX.out
          omega
        have HL1 : Hid ((othL l n).length ≤ 20) := Lib.hid (by omega)
        rw [← HOR.out] at HR1 HL1
        have HLEN : Hid ((othL l n).length = (orient n s l).length) := Lib.hid (by rw [HOR.out])
        rw [HLEN.out]
        clear hbv hov hr2 HOWN HF HB HRK HQB hckr HI1 HI2 d0 d1 dl hol HORT HORF HLEN
        generalize hxo : orient n s l = x at *
        have HXO := Lib.hid hxo
        clear hxo
        obtain ⟨d0, d1, -, -⟩ := HB1.out.2.1
        have dl := HB1.out.2.1.lt
        go_wp2_with fail
        refine (HW.out q2 c2 x (by have := HL1.out; omega) v2 HB1.out.2.2 HR1.out).mono ?_
        rintro e y1 ⟨rfl, hby⟩
        have HF2 := Lib.hid (HF1.out.keep hby)
        have HR2 := Lib.hid (HR1.out.over hby (Nat.le_refl _))
        have NEW : Hid (best = none ∨ (∃ b c, best = some (b, c) ∧ cutW M (inS x) < b) → pairB M n s t (L.take (k + 1)) = some (cutW M (inS x), x)) := Lib.hid fun h => by
          rw [HN.out, stepP_new HDI.out (by rw [HXO.out]; exact h), HXO.out]
        have EQ : Hid (∀ b cc, best = some (b, cc) → cutW M (inS x) = b → pairB M n s t (L.take (k + 1)) = some (b, x.filter (fun v => inS cc v))) := Lib.hid fun b cc h h2 => by
          rw [HN.out, h, stepP_eq HDI.out (by rw [HXO.out]; exact h2), HXO.out]
        have MORE : Hid (∀ b cc, best = some (b, cc) → b < cutW M (inS x) → pairB M n s t (L.take (k + 1)) = some (b, cc)) := Lib.hid fun b cc h h2 => by
          rw [HN.out, h, stepP_more HDI.out (by rw [HXO.out]; exact h2)]
        clear hby HF1 HB1 HR1 d0 d1 dl HN HDI
        generalize cutW M (inS x) = y at *
        cases best with
        | none =>
          have HST2 := FIN.out _ (NEW.out (Or.inl rfl)) _ (HF2.out.store (y := y) (c := c2) HR2.out HQ1.out (by have := HL1.out; omega))
          obtain ⟨-, -, hcl, q9, c9, ⟨m0, m1, g0, g1⟩, -⟩ := HF2.out
          unfold wB at m0
          have hXl : BX < y1.heap.size := World.block_lt_of_cell? y1 _ m0
          clear HF2 NEW EQ MORE FIN
          go_wp2
          go_roundw
          case rel => exact ⟨k + 1, by go_num, hlt, HST2⟩
          case measure => simp [intOf]; omega
        | some pp =>
          obtain ⟨bb, cc⟩ := pp
          have hb0 : ¬ bb < 0 := by have := HPO.out bb cc rfl; omega
          by_cases hyb : y < bb
          · have HST2 := FIN.out _ (NEW.out (Or.inr ⟨bb, cc, rfl, hyb⟩)) _ (HF2.out.store (y := y) (c := c2) HR2.out HQ1.out (by have := HL1.out; omega))
            obtain ⟨-, -, hcl, q9, c9, ⟨m0, m1, g0, g1⟩, -⟩ := HF2.out
            unfold wB at m0
            have hXl : BX < y1.heap.size := World.block_lt_of_cell? y1 _ m0
            clear HF2 NEW EQ MORE FIN
            go_wp2
            go_roundw
            case rel => exact ⟨k + 1, by go_num, hlt, HST2⟩
            case measure => simp [intOf]; omega
          by_cases hye : y = bb
          · have t1 : (y == bb) = true := by simpa using hye
            have HE := Lib.hid (EQ.out bb cc rfl hye)
            obtain ⟨-, -, hcl, q9, c9, ⟨m0, m1, g0, g1⟩, hrc, hqc⟩ := HF2.out
            have HRC : Hid (ReadsL encZ y1.heap.size y1 q9 cc) := Lib.hid hrc
            have HM0 := Lib.hid (And.intro m0 (And.intro m1 g1))
            have HCL : Hid (cc.length ≤ 1000) := Lib.hid hcl
            unfold wB at m0
            have hXl : BX < y1.heap.size := World.block_lt_of_cell? y1 _ m0
            clear hrc hqc NEW EQ MORE hye
            have HK0 : Hid (GrowRel encZ 3 y1 ((x.take 0).filter (fun v => inS cc v)) (.slice none 0 0) y1) := Lib.hid (GrowRel.start _ _ _)
            go_wp2
            go_loopw [13, 14] (fun sv i w3 => ∃ (j : Nat) (v : Value), v = sv ∧ i = .int .i64 (j : Int) ∧ j ≤ x.length ∧ Hid (GrowRel encZ 3 y1 ((x.take j).filter (fun v => inS cc v)) v w3)) (fun _ i _ => x.length - (intOf i).toNat)
            case atStart => exact ⟨0, _, rfl, rfl, Nat.zero_le _, HK0⟩
            case round =>
              clear HK0
              obtain ⟨j, v, rfl, rfl, hj, HK⟩ := hrel
              have HSr := Lib.hid (HRC.out.over HK.out.1 (Nat.le_refl _))
              have n1 := (HK.out.1.cell (p := ⟨BX, 1, none⟩) hXl).trans HM0.out.2.1
              have g3 := (HK.out.1.frozen (p := ⟨BX, 1, none⟩) hXl).trans HM0.out.2.2
              have hXl3 : BX < wr.heap.size := Nat.lt_of_lt_of_le hXl HK.out.1.size
              have hxl : x.length ≤ 20 := HL1.out
              by_cases hjt : j < x.length
              · have i2 : (j : Int) < (x.length : Int) := by omega
                obtain ⟨bx, ox, hqe, hbx, hcx⟩ := (HR2.out.over HK.out.1 (Nat.le_refl _)).at hjt
                have HFT := Lib.hid (filt_take (p := fun v => inS cc v) hjt)
                have hfl : ((x.take j).filter (fun v => inS cc v)).length ≤ 20 := by
                  have h1 := List.length_filter_le (fun v => inS cc v) (x.take j)
                  rw [List.length_take] at h1
                  omega
                have HI3 := Lib.hid (fun W h => HI.out q9 c9 cc (by have := HCL.out; omega) x[j] W h)
                unfold encZ at hcx
                subst hqe
                generalize x[j] = u at *
                generalize htb : inS cc u = tb at *
                clear htb
                cases tb with
                | true =>
                  have HX2 : Hid ((x.take (j + 1)).filter (fun v => inS cc v) = (x.take j).filter (fun v => inS cc v) ++ [u]) := Lib.hid (by rw [HFT.out, if_pos rfl])
                  go_wp2
                  go_quiet (first | (go_at_call 16; exact Calls.quiet_of_same (HI3.out _ HSr.out)))
                  have HK2 := Lib.hid (HK.out.on (below_drewN (Below.refl _ _) nq))
                  have hcV := ((below_drewN (Below.refl wr.heap.size wr) nq).cell (p := ⟨bx, ox + j, none⟩) hbx).trans hcx
                  have hbV : bx < (wr.drewN nq).heap.size := Nat.lt_of_lt_of_le hbx (below_drewN (Below.refl wr.heap.size wr) nq).size
                  clear HK hcx n1 g3 HSr hXl3 hbx
                  generalize (x.take j).filter (fun v => inS cc v) = xs at *
                  have hsz2 : y1.heap.size ≤ (wr.drewN nq).heap.size := HK2.out.1.size
                  generalize wr.drewN nq = V at *
                  go_wp2_with (first
                    | (at_builtin; refine wpList_append_own _ rfl _ _ 29 rfl y1.heap.size 3 ti (.int .i64 0) 1 8 Tryd.underlying29 hi1 hi2 hi3 hi4 rfl (by decide) v xs.length (xs.map encZ) rfl (HK2.out.2.alloc _) ⟨V.heap.size, 0, none⟩ 1 1 [.int .i64 u] rfl rfl one_news (by intro u hu; simp at hu; subst hu; rfl) (by unfold maxLen; omega) (by omega) (by simp; omega) ?_; intro v' w6 hown6 hg6 _; have hst := HK2.out.step u hown6 hg6; rw [← HX2.out] at hst; have HS6 := Lib.hid hst; clear hst hown6 hg6))
                  go_roundw
                  case rel => exact ⟨j + 1, v', rfl, by go_num, hjt, HS6⟩
                  case measure => simp [intOf]; omega
                | false =>
                  have HX2 : Hid ((x.take (j + 1)).filter (fun v => inS cc v) = (x.take j).filter (fun v => inS cc v)) := Lib.hid (by rw [HFT.out, if_neg (by decide), List.append_nil])
                  go_wp2
                  go_quiet (first | (go_at_call 16; exact Calls.quiet_of_same (HI3.out _ HSr.out)))
                  have HK2 := Lib.hid (HK.out.on (below_drewN (Below.refl _ _) nq))
                  clear HK
                  go_wp2
                  go_roundw
                  case rel => exact ⟨j + 1, v, rfl, by go_num, hjt, by rw [HX2.out]; exact HK2⟩
                  case measure => simp [intOf]; omega
              · have i2 : ¬ (j : Int) < (x.length : Int) := by omega
                have hje : j = x.length := by omega
                subst hje
                obtain ⟨pv, cv, rfl, hrv, -⟩ := HK.out.reads
                rw [List.take_length] at hrv ⊢
                have hfl : (x.filter (fun v => inS cc v)).length ≤ 1000 := by
                  have h1 := List.length_filter_le (fun v => inS cc v) x
                  omega
                have hpv : ∀ z, pv = some z → W0.heap.size ≤ z.block ∧ z.block ≠ BX := fun z hz => by
                  have h1 := (HK.out.2.lt z.block (by rw [hz]; rfl)).1
                  have h2 := HF2.out.1.size
                  have h3 := HB01.out
                  omega
                have HST2 := FIN.out _ HE.out _ ((HF2.out.keep HK.out.1).side (c := cv) hrv hpv hfl)
                clear HK hrv hpv HSr HF2 HE FIN
                go_wp2
                go_roundw
                case rel => exact ⟨k + 1, by go_num, hlt, HST2⟩
                case measure => simp [intOf]; omega
          · have hyg : bb < y := by omega
            have t1 : (y == bb) = false := by simpa using hye
            have HST2 := FIN.out _ (MORE.out bb cc rfl hyg) _ HF2.out
            obtain ⟨-, -, hcl, q9, c9, ⟨m0, m1, g0, g1⟩, -⟩ := HF2.out
            unfold wB at m0
            have hXl : BX < y1.heap.size := World.block_lt_of_cell? y1 _ m0
            clear HF2 NEW EQ MORE FIN
            go_wp2
            go_roundw
            case rel => exact ⟨k + 1, by go_num, hlt, HST2⟩
            case measure => simp [intOf]; omega
      · clear SAME
        have HOR := Lib.hid (HORT.out rfl)
        have HDI := Lib.hid (DIFF.out (by decide))
        go_wp2_with fail
        refine HI1.out.mono ?_
        rintro e v1 ⟨rfl, rfl⟩
        go_wp2_with fail
        refine HI2.out.mono ?_
        rintro e v1 ⟨rfl, rfl⟩
        go_wp2_with fail
        refine HI1.out.mono ?_
        rintro e v1 ⟨rfl, rfl⟩
        have HF1 := HF
        have HB1 := HB
        have HR1 := HRK
        have HQ1 := HQB
        have HL1 := HLk
        clear HF HB HRK HQB HLk HI1 HI2 HORT HORF
        obtain ⟨x, hx⟩ : ∃ x, x = l := ⟨_, rfl⟩
        have HXO : Hid (orient n s l = x) := Lib.hid (by rw [HOR.out, hx])
        clear HOR
        rw [← hx] at HR1 HL1 ⊢
        have HXL := Lib.hid hx
        clear hx
        obtain ⟨d0, d1, -, -⟩ := HB1.out.2.1
        have dl := HB1.out.2.1.lt
        go_wp2_with fail
        refine (HW.out q cq x (by have := HL1.out; omega) v1 HB1.out.2.2 HR1.out).mono ?_
        rintro e y1 ⟨rfl, hby⟩
        have HF2 := Lib.hid (HF1.out.keep hby)
        have HR2 := Lib.hid (HR1.out.over hby (Nat.le_refl _))
        have NEW : Hid (best = none ∨ (∃ b c, best = some (b, c) ∧ cutW M (inS x) < b) → pairB M n s t (L.take (k + 1)) = some (cutW M (inS x), x)) := Lib.hid fun h => by
          rw [HN.out, stepP_new HDI.out (by rw [HXO.out]; exact h), HXO.out]
        have EQ : Hid (∀ b cc, best = some (b, cc) → cutW M (inS x) = b → pairB M n s t (L.take (k + 1)) = some (b, x.filter (fun v => inS cc v))) := Lib.hid fun b cc h h2 => by
          rw [HN.out, h, stepP_eq HDI.out (by rw [HXO.out]; exact h2), HXO.out]
        have MORE : Hid (∀ b cc, best = some (b, cc) → b < cutW M (inS x) → pairB M n s t (L.take (k + 1)) = some (b, cc)) := Lib.hid fun b cc h h2 => by
          rw [HN.out, h, stepP_more HDI.out (by rw [HXO.out]; exact h2)]
        clear hby HF1 HB1 HR1 d0 d1 dl HN HDI
        generalize cutW M (inS x) = y at *
        cases best with
        | none =>
          have HST2 := FIN.out _ (NEW.out (Or.inl rfl)) _ (HF2.out.store (y := y) (c := cq) HR2.out HQ1.out (by have := HL1.out; omega))
          obtain ⟨-, -, hcl, q9, c9, ⟨m0, m1, g0, g1⟩, -⟩ := HF2.out
          unfold wB at m0
          have hXl : BX < y1.heap.size := World.block_lt_of_cell? y1 _ m0
          clear HF2 NEW EQ MORE FIN
          go_wp2
          go_roundw
          case rel => exact ⟨k + 1, by go_num, hlt, HST2⟩
          case measure => simp [intOf]; omega
        | some pp =>
          obtain ⟨bb, cc⟩ := pp
          have hb0 : ¬ bb < 0 := by have := HPO.out bb cc rfl; omega
          by_cases hyb : y < bb
          · have HST2 := FIN.out _ (NEW.out (Or.inr ⟨bb, cc, rfl, hyb⟩)) _ (HF2.out.store (y := y) (c := cq) HR2.out HQ1.out (by have := HL1.out; omega))
            obtain ⟨-, -, hcl, q9, c9, ⟨m0, m1, g0, g1⟩, -⟩ := HF2.out
            unfold wB at m0
            have hXl : BX < y1.heap.size := World.block_lt_of_cell? y1 _ m0
            clear HF2 NEW EQ MORE FIN
            go_wp2
            go_roundw
            case rel => exact ⟨k + 1, by go_num, hlt, HST2⟩
            case measure => simp [intOf]; omega
          by_cases hye : y = bb
          · have t1 : (y == bb) = true := by simpa using hye
            have HE := Lib.hid (EQ.out bb cc rfl hye)
            obtain ⟨-, -, hcl, q9, c9, ⟨m0, m1, g0, g1⟩, hrc, hqc⟩ := HF2.out
            have HRC : Hid (ReadsL encZ y1.heap.size y1 q9 cc) := Lib.hid hrc
            have HM0 := Lib.hid (And.intro m0 (And.intro m1 g1))
            have HCL : Hid (cc.length ≤ 1000) := Lib.hid hcl
            unfold wB at m0
            have hXl : BX < y1.heap.size := World.block_lt_of_cell? y1 _ m0
            clear hrc hqc NEW EQ MORE hye
            have HK0 : Hid (GrowRel encZ 3 y1 ((x.take 0).filter (fun v => inS cc v)) (.slice none 0 0) y1) := Lib.hid (GrowRel.start _ _ _)
            go_wp2
            go_loopw [13, 14] (fun sv i w3 => ∃ (j : Nat) (v : Value), v = sv ∧ i = .int .i64 (j : Int) ∧ j ≤ x.length ∧ Hid (GrowRel encZ 3 y1 ((x.take j).filter (fun v => inS cc v)) v w3)) (fun _ i _ => x.length - (intOf i).toNat)
            case atStart => exact ⟨0, _, rfl, rfl, Nat.zero_le _, HK0⟩
            case round =>
              clear HK0
              obtain ⟨j, v, rfl, rfl, hj, HK⟩ := hrel
              have HSr := Lib.hid (HRC.out.over HK.out.1 (Nat.le_refl _))
              have n1 := (HK.out.1.cell (p := ⟨BX, 1, none⟩) hXl).trans HM0.out.2.1
              have g3 := (HK.out.1.frozen (p := ⟨BX, 1, none⟩) hXl).trans HM0.out.2.2
              have hXl3 : BX < wr.heap.size := Nat.lt_of_lt_of_le hXl HK.out.1.size
              have hxl : x.length ≤ 20 := HL1.out
              by_cases hjt : j < x.length
              · have i2 : (j : Int) < (x.length : Int) := by omega
                obtain ⟨bx, ox, hqe, hbx, hcx⟩ := (HR2.out.over HK.out.1 (Nat.le_refl _)).at hjt
                have HFT := Lib.hid (filt_take (p := fun v => inS cc v) hjt)
                have hfl : ((x.take j).filter (fun v => inS cc v)).length ≤ 20 := by
                  have h1 := List.length_filter_le (fun v => inS cc v) (x.take j)
                  rw [List.length_take] at h1
                  omega
                have HI3 := Lib.hid (fun W h => HI.out q9 c9 cc (by have := HCL.out; omega) x[j] W h)
                unfold encZ at hcx
                subst hqe
                generalize x[j] = u at *
                generalize htb : inS cc u = tb at *
                clear htb
                cases tb with
                | true =>
                  have HX2 : Hid ((x.take (j + 1)).filter (fun v => inS cc v) = (x.take j).filter (fun v => inS cc v) ++ [u]) := Lib.hid (by rw [HFT.out, if_pos rfl])
                  go_wp2
                  go_quiet (first | (go_at_call 16; exact Calls.quiet_of_same (HI3.out _ HSr.out)))
                  have HK2 := Lib.hid (HK.out.on (below_drewN (Below.refl _ _) nq))
                  have hcV := ((below_drewN (Below.refl wr.heap.size wr) nq).cell (p := ⟨bx, ox + j, none⟩) hbx).trans hcx
                  have hbV : bx < (wr.drewN nq).heap.size := Nat.lt_of_lt_of_le hbx (below_drewN (Below.refl wr.heap.size wr) nq).size
                  clear HK hcx n1 g3 HSr hXl3 hbx
                  generalize (x.take j).filter (fun v => inS cc v) = xs at *
                  have hsz2 : y1.heap.size ≤ (wr.drewN nq).heap.size := HK2.out.1.size
                  generalize wr.drewN nq = V at *
                  go_wp2_with (first
                    | (at_builtin; refine wpList_append_own _ rfl _ _ 29 rfl y1.heap.size 3 ti (.int .i64 0) 1 8 Tryd.underlying29 hi1 hi2 hi3 hi4 rfl (by decide) v xs.length (xs.map encZ) rfl (HK2.out.2.alloc _) ⟨V.heap.size, 0, none⟩ 1 1 [.int .i64 u] rfl rfl one_news (by intro u hu; simp at hu; subst hu; rfl) (by unfold maxLen; omega) (by omega) (by simp; omega) ?_; intro v' w6 hown6 hg6 _; have hst := HK2.out.step u hown6 hg6; rw [← HX2.out] at hst; have HS6 := Lib.hid hst; clear hst hown6 hg6))
                  go_roundw
                  case rel => exact ⟨j + 1, v', rfl, by go_num, hjt, HS6⟩
                  case measure => simp [intOf]; omega
                | false =>
                  have HX2 : Hid ((x.take (j + 1)).filter (fun v => inS cc v) = (x.take j).filter (fun v => inS cc v)) := Lib.hid (by rw [HFT.out, if_neg (by decide), List.append_nil])
                  go_wp2
                  go_quiet (first | (go_at_call 16; exact Calls.quiet_of_same (HI3.out _ HSr.out)))
                  have HK2 := Lib.hid (HK.out.on (below_drewN (Below.refl _ _) nq))
                  clear HK
                  go_wp2
                  go_roundw
                  case rel => exact ⟨j + 1, v, rfl, by go_num, hjt, by rw [HX2.out]; exact HK2⟩
                  case measure => simp [intOf]; omega
              · have i2 : ¬ (j : Int) < (x.length : Int) := by omega
                have hje : j = x.length := by omega
                subst hje
                obtain ⟨pv, cv, rfl, hrv, -⟩ := HK.out.reads
                rw [List.take_length] at hrv ⊢
                have hfl : (x.filter (fun v => inS cc v)).length ≤ 1000 := by
                  have h1 := List.length_filter_le (fun v => inS cc v) x
                  omega
                have hpv : ∀ z, pv = some z → W0.heap.size ≤ z.block ∧ z.block ≠ BX := fun z hz => by
                  have h1 := (HK.out.2.lt z.block (by rw [hz]; rfl)).1
                  have h2 := HF2.out.1.size
                  have h3 := HB01.out
                  omega
                have HST2 := FIN.out _ HE.out _ ((HF2.out.keep HK.out.1).side (c := cv) hrv hpv hfl)
                clear HK hrv hpv HSr HF2 HE FIN
                go_wp2
                go_roundw
                case rel => exact ⟨k + 1, by go_num, hlt, HST2⟩
                case measure => simp [intOf]; omega
          · have hyg : bb < y := by omega
            have t1 : (y == bb) = false := by simpa using hye
            have HST2 := FIN.out _ (MORE.out bb cc rfl hyg) _ HF2.out
            obtain ⟨-, -, hcl, q9, c9, ⟨m0, m1, g0, g1⟩, -⟩ := HF2.out
            unfold wB at m0
            have hXl : BX < y1.heap.size := World.block_lt_of_cell? y1 _ m0
            clear HF2 NEW EQ MORE FIN
            go_wp2
            go_roundw
            case rel => exact ⟨k + 1, by go_num, hlt, HST2⟩
            case measure => simp [intOf]; omega
      · have HST2 := SAME rfl
        clear SAME
        go_wp2_with fail
        refine HI1.out.mono ?_
        rintro e v1 ⟨rfl, rfl⟩
        go_wp2_with fail
        refine HI2.out.mono ?_
        rintro e v1 ⟨rfl, rfl⟩
        go_wp2
        go_roundw
        case rel => exact ⟨k + 1, by go_num, hlt, HST2⟩
        case measure => simp [intOf]; omega
    · have i1 : ¬ (k : Int) < (L.length : Int) := by omega
      have hke : k = L.length := by omega
      subst hke
      obtain ⟨hb1, hb2, -, q1, c1, ⟨m0, m1, g0, g1⟩, hrd, hqq⟩ := HF.out
      rw [List.take_length] at m0 m1 hrd
      have HTR := Lib.hid (HT1.out.on hb1 (by have := HBX.out; have := HRW.out; omega))
      have HBW := Lib.hid (HS1.out.1.trans (hb1.mono HS1.out.1.size))
      have HRD := Lib.hid hrd
      have HQQ := Lib.hid hqq
      obtain ⟨r0, r1, r2, e0, e1, e2⟩ := HTR.out
      have rl := HTR.out.lt
      have hXl : BX < wr.heap.size := World.block_lt_of_cell? wr _ m0
      have HXX := HX.out
      clear hb1 hb2 hrd hqq HF
      generalize hbst : pairB M n s t L = best at *
      have HBST := Lib.hid hbst
      clear hbst
      go_wp2
      have hres := three_res HBW.out HTR.out (by omega) (.int .i64 (wB best)) (.slice q1 (sB best).length c1) (.int .i64 0)
      obtain ⟨d0, d1, d2, -⟩ := hres.2
      refine bodyPost_ret (v := .agg #[.int .i64 (wB best), .slice q1 (sB best).length c1, .int .i64 0]) (by simp [results, Tryd.results9, go_sem, d0, d1, d2]) rfl ?_
      unfold GotN
      rw [HAll.out, HBST.out]
      exact ⟨hres.1, q1, c1, rfl, reads_beside HRD.out (fun z hz => by have h1 := (HQQ.out z hz).1; have h2 := HT0L.out; omega) _ _ _, fun z hz => by have h1 := (HQQ.out z hz).1; have h2 := HT0L.out; omega⟩
theorem refPair_any (n : Nat) (hn20 : n ≤ 20) (a : Option Addr) (c : Nat) (M : List Ed) (hm : M.length ≤ 100000) (hn : NonNeg M) (ha : allW M ≤ 2251799813685248) (s t : Int) (hs : 0 ≤ s ∧ s < n) (ht : 0 ≤ t ∧ t < n) (hst : s ≠ t) (w : World) (hR : ReadsE w.heap.size w a M) :
    Calls Tryd.prog 9 #[.agg #[.int .i64 (n : Int), .slice a M.length c], .int .i64 s, .int .i64 t] w fun e w' => GotO (wB (pairB M n s t (allS n))) (sB (pairB M n s t (allS n))) 0 w e w' :=
  (refPairN_any n hn20 a c M hm hn ha s t hs ht hst w hR).mono fun _ _ h => h.old
end Go.Proofs.YtceejjgmepaonaaDoor.Br
