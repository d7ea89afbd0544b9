/- The document's answers of layer 10: all classes, by what they are called; joins of any two numbers. -/
import Derived.Test.YtmohfmhkhldhnaaGreatPk20
namespace Go.Proofs.YtmohfmhkhldhnaaGreat.Ds
open Go.RowKit Go.ChangeShapes Go.Maps DsuPure
theorem joinRef_any (n : Nat) (hn : n ≤ 4096) (p : Nat → Nat) (a : Option Addr) (c : Nat) (u v : Int) (w : World) (h : RefAt w a n p) :
    Calls Tryz.prog 43 #[.agg #[.slice a n c], .int .i64 u, .int .i64 v] w fun e w' => ∃ q c', e = .returned (.agg #[.slice q n c']) ∧ Below w.heap.size w w' ∧ (Off q w.heap.size w' ∨ q = a) ∧ RefAt w' q n (joinZ n p u v) := by
  unfold joinZ
  cases hf : fitB n u && fitB n v
  · refine (joinRef_none n a c u v w hf).mono ?_
    rintro e w' ⟨rfl, hb⟩
    exact ⟨a, c, rfl, hb, Or.inr rfl, h.keep hb⟩
  · rw [Bool.and_eq_true] at hf
    obtain ⟨x, rfl, hx⟩ := fit_yes hf.1
    obtain ⟨y, rfl, hy⟩ := fit_yes hf.2
    refine (joinRef_some n hn p a c x y w h hx hy).mono ?_
    rintro e w' ⟨q, c', rfl, hb, ho, hr⟩
    exact ⟨q, c', rfl, hb, Or.inl ho, hr⟩
/-- The lists of the classes whose names are below k. -/
def outL (n k : Nat) (p : Nat → Nat) : List (List Int) := (rootsL k p).map (rowL n p)
theorem outL_len (n k : Nat) (p : Nat → Nat) : (outL n k p).length = rootsN k p := by unfold outL; rw [List.length_map, rootsL_len]
theorem outL_root {n k : Nat} {p : Nat → Nat} (h : p k = k) : outL n (k + 1) p = outL n k p ++ [rowL n p k] := by
  unfold outL
  rw [rootsL_succ, if_pos h, List.map_append]
  rfl
theorem outL_other {n k : Nat} {p : Nat → Nat} (h : p k ≠ k) : outL n (k + 1) p = outL n k p := by
  unfold outL
  rw [rootsL_succ, if_neg h, List.append_nil]
def OutRel (w : World) (a : Option Addr) (n c : Nat) (ov : Value) (vs : List Value) (L : List (List Int)) (W : World) : Prop :=
  Below w.heap.size w W ∧ OneAt w.heap.size W (.slice a n c) ∧ LAt (w.heap.size + 1) W ov vs L
theorem OutRel.keep {w W W' : World} {a : Option Addr} {n c : Nat} {ov : Value} {vs : List Value} {L : List (List Int)} (h : OutRel w a n c ov vs L W) (hb : Below W.heap.size W W') : OutRel w a n c ov vs L W' :=
  ⟨h.1.trans (hb.mono h.1.size), h.2.1.keep hb, h.2.2.keep hb⟩
/-- The list that is gathered stands behind all that was there at the inner loop's beginning. -/
def InRel (w : World) (a : Option Addr) (n c : Nat) (ov : Value) (vs : List Value) (L : List (List Int)) (W0 : World) (u : Value) (l : List Int) (W : World) : Prop :=
  OutRel w a n c ov vs L W0 ∧ Below W0.heap.size W0 W ∧ W.ownsRow W0.heap.size 3 1 u l.length (l.map encZ)
theorem InRel.step {w W W' W0 : World} {a : Option Addr} {n c : Nat} {ov : Value} {vs : List Value} {L : List (List Int)} {u u' : Value} {l : List Int} {x : Int} {o : Obj} (h : InRel w a n c ov vs L W0 u l W) (hown : W'.ownsRow W0.heap.size 3 1 u' (l.length + 1) (l.map encZ ++ [encZ x])) (hg : (W.alloc o).grownBy W' u.ownBlock) :
    InRel w a n c ov vs L W0 u' (l ++ [x]) W' := by
  obtain ⟨h1, h2, h3⟩ := h
  have hb := h2.alloc h2.size o
  refine ⟨h1, hb.grown hg hb.size (fun k e => (h3.lt k e).1), ?_⟩
  rw [List.length_append, List.map_append]
  exact hown
theorem InRel.push {w W W' W0 : World} {a : Option Addr} {n c : Nat} {ov ov' : Value} {vs : List Value} {L : List (List Int)} {u : Value} {l : List Int} {o : Obj} (h : InRel w a n c ov vs L W0 u l W)
    (hown : W'.ownsRow (w.heap.size + 1) 32 1 ov' (L.length + 1) (vs ++ [u])) (hg : (W.alloc o).grownBy W' ov.ownBlock) (hat : ov'.ownBlock = ov.ownBlock ∨ ov'.ownBlock = some (W.alloc o).heap.size) :
    OutRel w a n c ov' (vs ++ [u]) (L ++ [l]) W' := by
  obtain ⟨h1, h2, h3⟩ := h
  have hb := h2.alloc h2.size o
  have hk := h1.keep hb
  have hl := h1.2.2.lt.1
  have s1 := h1.1.size
  have s2 := h1.2.1.lt
  exact ⟨hk.1.grown hg hk.1.size (fun k e => by have := (hl k e).1; omega), hk.2.1.past hg (fun e => by have := (hl _ e.symm).1; omega),
    h1.2.2.push hb (owns_mono (h3.alloc o) (by omega)) (fun k e => (h3.lt k e).1) hown hg hat⟩
set_option maxRecDepth 100000 in
set_option maxHeartbeats 4000000 in
theorem listRef_any (n : Nat) (hn : n ≤ 4096) (p : Nat → Nat) (a : Option Addr) (c : Nat) (w : World) (h : RefAt w a n p) :
    Calls Tryz.prog 44 #[.agg #[.slice a n c]] w fun e w' => ∃ q d, e = .returned (.slice q (listsP n p).length d) ∧ RowsAt (w.heap.size + 1) w' q (listsP n p) ∧ Below w.heap.size w w' := by
  have HA : Hid (∀ W, Below w.heap.size w W → ∀ z, z < n → ∃ b off, a = some ⟨b, off, none⟩ ∧ W.cell? ⟨b, off + z, none⟩ = some (.int .i64 (p z : Int))) := Lib.hid fun W hb z hz => by
    obtain ⟨b1, o1, e1, h1, d1⟩ := h.at hz
    exact ⟨b1, o1, e1, (hb.cell (p := ⟨b1, o1 + z, none⟩) h1).trans d1⟩
  have HS : Hid (OutRel w a n c (.slice none 0 0) [] (outL n 0 p) (w.alloc (.cells #[.slice a n c] 85))) := Lib.hid
    ⟨(Below.refl _ w).alloc (Nat.le_refl _) _, OneAt.new w _ _, LAt.nil _ _⟩
  clear h
  obtain ⟨i1, hi1, hi2, hi3, hi4⟩ := info_parts (show (Tryz.prog.info? 3).map (fun i => (i.zero, i.size, i.bytes)) = some (some (.int .i64 0), 1, 8) by kernel_rfl)
  obtain ⟨j1, hj1, hj2, hj3, hj4⟩ := info_parts (show (Tryz.prog.info? 32).map (fun i => (i.zero, i.size, i.bytes)) = some (some (.slice none 0 0), 1, 24) by kernel_rfl)
  go_enter Tryz.func44, Tryz.ntmps44
  go_wp2_with fail
  generalize w.alloc (.cells #[.slice a n c] 85) = W1 at *
  go_loopw [3, 4] (fun ov i wr => ∃ (k : Nat) (vs : List Value), i = .int .i64 k ∧ k ≤ n ∧ Hid (OutRel w a n c ov vs (outL n k p) wr)) (fun _ i _ => n - (intOf i).toNat)
  case atStart => exact ⟨0, [], rfl, Nat.zero_le _, HS⟩
  case round =>
    obtain ⟨k, vs, rfl, hk, HK⟩ := hrel
    clear HS
    have k0 : (0 : Int) ≤ (k : Int) := by omega
    have c0 := HK.out.2.1.1
    by_cases hlt : k < n
    · have k1 : (k : Int) < (n : Int) := by omega
      obtain ⟨b, off, rfl, d0⟩ := HA.out wr HK.out.1 k hlt
      have HL := Lib.hid (outL_len n k p)
      have hro := rootsN_le k p
      by_cases hroot : p k = k
      · have HO := Lib.hid (outL_root (n := n) hroot)
        rw [hroot] at d0
        have HRT := Lib.hid hroot
        clear hroot
        have HI : Hid (InRel w (some ⟨b, off, none⟩) n c u3 vs (outL n k p) wr (.slice none 0 0) (rowL 0 p k) wr) := Lib.hid ⟨HK.out, Below.refl _ _, World.ownsRow_nil _ _ _ _⟩
        have HB := Lib.hid HK.out.1
        generalize outL n k p = L at *
        have hL4 : L.length ≤ 4096 := by rw [HL.out]; omega
        go_wp2_with fail
        obtain ⟨W0, hW0⟩ : ∃ W0, W0 = wr := ⟨_, rfl⟩
        subst hW0
        go_loopw [5, 6] (fun u i wr => ∃ (j : Nat), i = .int .i64 j ∧ j ≤ n ∧ Hid (InRel w (some ⟨b, off, none⟩) n c u3 vs L W0 u (rowL j p k) wr)) (fun _ i _ => n - (intOf i).toNat)
        case atStart => exact ⟨0, rfl, Nat.zero_le _, HI⟩
        case round =>
          obtain ⟨j, rfl, hj, HJ⟩ := hrel
          clear HI d0 c0
          have l0 : (0 : Int) ≤ (j : Int) := by omega
          have hbj := HJ.out.2.1
          have c1 := (HJ.out.1.keep hbj).2.1.1
          have hbw := HB.out.trans (hbj.mono HB.out.size)
          by_cases hjt : j < n
          · have l1 : (j : Int) < (n : Int) := by omega
            obtain ⟨b1, o1, e1, d1⟩ := HA.out wr hbw j hjt
            cases e1
            have HN := Lib.hid (rowL_succ j p k)
            have hrl := rowL_le j p k
            have hsz := hbj.size
            clear hbj hbw
            by_cases he : p j = k
            · have HN2 : Hid (rowL (j + 1) p k = rowL j p k ++ [(j : Int)]) := Lib.hid (by rw [HN.out, if_pos he])
              rw [he] at d1
              clear he HN
              generalize rowL j p k = l at *
              go_wp2_with (first
                | (at_builtin; refine wpList_append_own_at _ rfl _ _ 32 rfl W0.heap.size 3 i1 (.int .i64 0) 1 8 Tryz.underlying32 hi1 hi2 hi3 hi4 rfl (by decide) u5 l.length (l.map encZ) rfl (HJ.out.2.2.alloc _) ⟨wr.heap.size, 0, none⟩ 1 1 [.int .i64 (j : Int)] rfl rfl one_news (by intro u hu; simp at hu; subst hu; rfl) (by unfold maxLen; omega) (by omega) (by simp; omega) ?_; intro v' w6 hown6 hg6 _ _; have HJ7 := Lib.hid (HJ.out.step hown6 hg6); rw [← HN2.out] at HJ7; clear hown6 hg6 c1 d1 HJ)
                | go_in)
              go_roundw
              case rel => exact ⟨j + 1, by go_num, by omega, HJ7⟩
              case measure => (simp [intOf] <;> omega)
            · have HN2 : Hid (rowL (j + 1) p k = rowL j p k) := Lib.hid (by rw [HN.out, if_neg he, List.append_nil])
              have e2 : ((p j : Int) == (k : Int)) = false := by simp; omega
              rw [← HN2.out] at HJ
              clear he HN
              generalize p j = pj at *
              go_wp2_with fail
              go_roundw
              case rel => exact ⟨j + 1, by go_num, by omega, HJ⟩
              case measure => (simp [intOf] <;> omega)
          · have hge : ¬ (j : Int) < (n : Int) := by omega
            have HE : Hid (rowL j p k = rowL n p k) := Lib.hid (by rw [show j = n by omega])
            rw [HE.out] at HJ
            have hsz := hbj.size
            have s1 := HB.out.size
            have s2 := HJ.out.1.2.1.lt
            obtain ⟨q5, d5, e5⟩ := owns_form HJ.out.2.2
            subst e5
            clear hbj hbw
            have HO2 := HO.out
            go_wp2_with (first
              | (at_builtin; refine wpList_append_own_at _ rfl _ _ 29 rfl (w.heap.size + 1) 32 j1 (.slice none 0 0) 1 24 Tryz.underlying29 hj1 hj2 hj3 hj4 rfl (by decide) u3 L.length vs rfl ((HJ.out.1.keep HJ.out.2.1).2.2.2.1.alloc _) ⟨wr.heap.size, 0, none⟩ 1 1 [.slice q5 (rowL n p k).length d5] rfl rfl one_news (by intro u hu; simp at hu; subst hu; rfl) (by unfold maxLen; omega) (by omega) (by simp; omega) ?_; intro v' w6 hown6 hg6 _ hat6; have HK7 := Lib.hid (HJ.out.push hown6 hg6 hat6); rw [← HO.out] at HK7; clear hown6 hg6 hat6 c1 HJ)
              | go_in)
            go_roundw
            case rel => exact ⟨k + 1, _, by go_num, by omega, HK7⟩
            case measure => (simp [intOf] <;> omega)
      · have HO := Lib.hid (outL_other (n := n) hroot)
        have e2 : ((p k : Int) == (k : Int)) = false := by simp; omega
        rw [← HO.out] at HK
        clear hroot
        generalize p k = pk at *
        go_wp2_with fail
        go_roundw
        case rel => exact ⟨k + 1, _, by go_num, by omega, HK⟩
        case measure => (simp [intOf] <;> omega)
    · have hge : ¬ (k : Int) < (n : Int) := by omega
      have HE : Hid (outL n k p = listsP n p) := Lib.hid (by rw [show k = n by omega]; rfl)
      obtain ⟨q, d, e, hr⟩ := HK.out.2.2.rows
      rw [HE.out] at e hr
      have HR := Lib.hid hr
      have HB := Lib.hid HK.out.1
      clear hr HK
      subst e
      go_wp2
      go_ret
      exact ⟨q, ⟨d, rfl⟩, HR.out, HB.out⟩
end Go.Proofs.YtmohfmhkhldhnaaGreat.Ds
