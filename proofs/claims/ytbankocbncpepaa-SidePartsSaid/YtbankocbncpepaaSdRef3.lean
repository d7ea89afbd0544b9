/- The document's Other, Normal, Parts and Same (layer 21). -/
import Derived.Test.YtbankocbncpepaaSdRef1
import Derived.Test.YtbankocbncpepaaTurn
namespace Go.Proofs.Ytbankocbncpepaa.Sd
open Go.RowKit Go.ChangeShapes EdPure NtPure CutPure SdPure Cm
/-- Numbers in a block of the call's own. -/
def OwnI (l : List Int) (w : World) (e : Ending) (w' : World) : Prop := Below w.heap.size w w' ∧ ∃ v, e = .returned v ∧ w'.ownsRow w.heap.size 3 1 v l.length (l.map encZ)
theorem OwnI.ints {l : List Int} {w : World} {e : Ending} {w' : World} (h : OwnI l w e w') : IntsOf l w e w' := by
  obtain ⟨hb, v, rfl, ho⟩ := h
  obtain ⟨p, c, rfl, hr, -⟩ := owns_readsL rfl ho
  exact ⟨hb, p, c, rfl, hr⟩
set_option maxRecDepth 100000 in
set_option maxHeartbeats 2000000 in
theorem refOtherO_any (n : Nat) (hn : n ≤ 100000) (b : Option Addr) (d : Nat) (l : List Int) (hl : l.length ≤ 1000000000) (w : World) (hS : ReadsL encZ w.heap.size w b l) :
    Calls Try.prog 23 #[.int .i64 (n : Int), .slice b l.length d] w fun e w' => OwnI (othL l n) w e w' := by
  have HS := Lib.hid hS
  obtain ⟨ti, hi1, hi2, hi3, hi4⟩ := info_int
  clear hS
  go_enter Try.func23, Try.ntmps23
  go_wp2
  go_loopw [5, 6] (fun s i wr => ∃ (k : Nat) (v : Value), v = s ∧ i = .int .i64 k ∧ k ≤ n ∧ Hid (GrowRel encZ 3 w (othL l k) v wr)) (fun _ i _ => n - (intOf i).toNat)
  case atStart => exact ⟨0, _, rfl, rfl, Nat.zero_le _, Lib.hid (GrowRel.start _ _ _)⟩
  case round =>
    obtain ⟨k, v, rfl, rfl, hk, HK⟩ := hrel
    have hsz := HK.out.1.size
    by_cases hlt : k < n
    · have i1 : (k : Int) < (n : Int) := by omega
      have HI := Lib.hid (in_any b d l hl (k : Int) wr (HS.out.over HK.out.1 (Nat.le_refl _)))
      have hlen := oth_len l k
      have HO : Hid (othL l (k + 1) = othL l k ++ (if inS l (k : Int) = true then [] else [(k : Int)])) := Lib.hid rfl
      cases hb : inS l (k : Int) with
      | true =>
        rw [hb] at HI HO
        have HX : Hid (othL l (k + 1) = othL l k) := Lib.hid (by rw [HO.out, if_pos rfl, List.append_nil])
        clear hb HO
        go_wp2_with fail
        refine HI.out.mono ?_
        rintro e w1 ⟨rfl, rfl⟩
        clear HI
        go_wp2
        go_roundw
        case rel => exact ⟨k + 1, v, rfl, by go_num, hlt, by rw [HX.out]; exact HK⟩
        case measure => simp [intOf]; omega
      | false =>
        rw [hb] at HI HO
        have HX : Hid (othL l (k + 1) = othL l k ++ [(k : Int)]) := Lib.hid (by rw [HO.out, if_neg (by decide)])
        clear hb HO
        generalize othL l k = xs at *
        go_wp2_with fail
        refine HI.out.mono ?_
        rintro e w1 ⟨rfl, rfl⟩
        clear HI
        go_wp2_with (first
          | (at_builtin; refine wpList_append_own _ rfl _ _ 23 rfl w.heap.size 3 ti (.int .i64 0) 1 8 Try.underlying23 hi1 hi2 hi3 hi4 rfl (by decide) v xs.length (xs.map encZ) rfl (HK.out.2.alloc _) ⟨w1.heap.size, 0, none⟩ 1 1 [.int .i64 (k : Int)] rfl rfl one_news (by intro u hu; simp at hu; subst hu; rfl) (by unfold maxLen; omega) (by omega) (by simp; omega) ?_; intro v' w6 hown6 hg6 _; have hst := HK.out.step (k : Int) hown6 hg6; rw [← HX.out] at hst; have HS6 := Lib.hid hst; clear hst hown6 hg6))
        go_roundw
        case rel => exact ⟨k + 1, v', rfl, by go_num, hlt, HS6⟩
        case measure => simp [intOf]; omega
    · obtain rfl : k = n := by omega
      obtain ⟨p, cp, rfl, -⟩ := HK.out.reads
      have HKK := HK
      clear HK
      go_wp2
      go_ret
      exact ⟨HKK.out.1, _, rfl, HKK.out.2⟩
theorem refOther_any (n : Nat) (hn : n ≤ 100000) (b : Option Addr) (d : Nat) (l : List Int) (hl : l.length ≤ 1000000000) (w : World) (hS : ReadsL encZ w.heap.size w b l) :
    Calls Try.prog 23 #[.int .i64 (n : Int), .slice b l.length d] w fun e w' => IntsOf (othL l n) w e w' := (refOtherO_any n hn b d l hl w hS).mono fun _ _ h => h.ints
theorem refNormal_any (n : Nat) (hn : n ≤ 100000) (b : Option Addr) (d : Nat) (l : List Int) (hl : l.length ≤ 1000000000) (w : World) (hS : ReadsL encZ w.heap.size w b l) :
    Calls Try.prog 19 #[.int .i64 (n : Int), .slice b l.length d] w fun e w' => IntsOf (normL n l) w e w' := by
  have HS := Lib.hid hS
  have HI := Lib.hid (in_any b d l hl 0 w hS)
  clear hS
  unfold normL
  cases hb : inS l 0 with
  | true =>
    rw [hb] at HI
    rw [if_pos rfl, Int.toNat_natCast]
    clear hb
    go_enter Try.func19, Try.ntmps19
    go_wp2_with fail
    refine HI.out.mono ?_
    rintro e w1 ⟨rfl, rfl⟩
    go_wp2_with fail
    refine (refOther_any n hn b d l hl _ HS.out).mono ?_
    rintro e w2 ⟨hb2, q, c, rfl, hr⟩
    have HB := Lib.hid hb2
    have HR := Lib.hid hr
    clear hb2 hr
    go_wp2
    go_ret
    exact ⟨HB.out, q, c, rfl, HR.out⟩
  | false =>
    rw [hb] at HI
    rw [if_neg (by decide)]
    clear hb
    go_enter Try.func19, Try.ntmps19
    go_wp2_with fail
    refine HI.out.mono ?_
    rintro e w1 ⟨rfl, rfl⟩
    go_wp2
    go_ret
    exact ⟨Below.refl _ _, b, d, rfl, HS.out⟩
set_option maxHeartbeats 1000000 in
theorem refParts_any (n : Int) (b : Option Addr) (d : Nat) (l : List Int) (hl : l.length ≤ 1000000000) (u v : Int) (w : World) (hS : ReadsL encZ w.heap.size w b l) :
    Calls Try.prog 22 #[.int .i64 n, .slice b l.length d, .int .i64 u, .int .i64 v] w fun e w' => e = .returned (.bool (partsB n l u v)) ∧ ∃ m, w' = w.drewN m := by
  have HS := Lib.hid hS
  have HC := Lib.hid (refCheck_any n b d l hl w hS)
  have HI := Lib.hid (fun x m => in_any b d l hl x (w.drewN m) HS.out)
  have HP : Hid (partsB n l u v = (decide (chkS n l = 0) && (decide (0 ≤ u) && (decide (u < n) && (decide (0 ≤ v) && (decide (v < n) && (inS l u != inS l v))))))) := Lib.hid rfl
  clear hS
  generalize partsB n l u v = pb at *
  generalize chkS n l = z at *
  generalize inS l = S at *
  have fin : ∀ x, pb = x → ∀ m, Ending.returned (.bool x) = .returned (.bool pb) ∧ ∃ m', w.drewN m = w.drewN m' := fun x hx m => ⟨by rw [hx], m, rfl⟩
  have FIN := Lib.hid fin
  clear fin
  by_cases c0 : z = 0
  case neg =>
    have HX : Hid (pb = false) := Lib.hid (by rw [HP.out, decide_eq_false c0]; rfl)
    have t0 : (z == 0) = false := by simpa using c0
    clear c0
    go_enter Try.func22, Try.ntmps22
    go_wp2_with fail
    refine HC.out.mono ?_
    rintro e w1 ⟨rfl, m, rfl⟩
    go_wp2
    go_ret
    exact FIN.out _ HX.out m
  subst c0
  by_cases c1 : 0 ≤ u
  case neg =>
    have HX : Hid (pb = false) := Lib.hid (by rw [HP.out, decide_eq_false c1]; simp)
    go_enter Try.func22, Try.ntmps22
    go_wp2_with fail
    refine HC.out.mono ?_
    rintro e w1 ⟨rfl, m, rfl⟩
    go_wp2
    go_ret
    exact FIN.out _ HX.out m
  by_cases c2 : u < n
  case neg =>
    have HX : Hid (pb = false) := Lib.hid (by rw [HP.out, decide_eq_false c2]; simp)
    go_enter Try.func22, Try.ntmps22
    go_wp2_with fail
    refine HC.out.mono ?_
    rintro e w1 ⟨rfl, m, rfl⟩
    go_wp2
    go_ret
    exact FIN.out _ HX.out m
  by_cases c3 : 0 ≤ v
  case neg =>
    have HX : Hid (pb = false) := Lib.hid (by rw [HP.out, decide_eq_false c3]; simp)
    go_enter Try.func22, Try.ntmps22
    go_wp2_with fail
    refine HC.out.mono ?_
    rintro e w1 ⟨rfl, m, rfl⟩
    go_wp2
    go_ret
    exact FIN.out _ HX.out m
  by_cases c4 : v < n
  case neg =>
    have HX : Hid (pb = false) := Lib.hid (by rw [HP.out, decide_eq_false c4]; simp)
    go_enter Try.func22, Try.ntmps22
    go_wp2_with fail
    refine HC.out.mono ?_
    rintro e w1 ⟨rfl, m, rfl⟩
    go_wp2
    go_ret
    exact FIN.out _ HX.out m
  have HX : Hid (pb = (S u != S v)) := Lib.hid (by rw [HP.out, decide_eq_true (rfl : (0 : Int) = 0), decide_eq_true c1, decide_eq_true c2, decide_eq_true c3, decide_eq_true c4]; rfl)
  go_enter Try.func22, Try.ntmps22
  go_wp2_with fail
  refine HC.out.mono ?_
  rintro e w1 ⟨rfl, m, rfl⟩
  go_wp2_with fail
  refine (HI.out u m).mono ?_
  rintro e w2 ⟨rfl, rfl⟩
  go_wp2_with fail
  refine (HI.out v m).mono ?_
  rintro e w2 ⟨rfl, rfl⟩
  go_wp2
  go_ret
  exact FIN.out _ HX.out m
/-- What the program answers: numbers, or a cut, and why there are none. -/
def SideL (L : List Int) (z : Int) (w : World) (e : Ending) (w' : World) : Prop := Below w.heap.size w w' ∧ ∃ q c, e = .returned (.tuple #[.slice q L.length c, .int .i64 z]) ∧ ReadsL encZ w'.heap.size w' q L
def SideC (x : Int) (L : List Int) (z : Int) (w : World) (e : Ending) (w' : World) : Prop := Below w.heap.size w w' ∧ ∃ q c, e = .returned (.tuple #[.agg #[.int .i64 x, .slice q L.length c], .int .i64 z]) ∧ ReadsL encZ w'.heap.size w' q L
/-- The same cut? -/
theorem refSame_any (x y : Int) (a b : Option Addr) (c d : Nat) (l r : List Int) (hl : l.length ≤ 1000000000) (w : World) (h1 : ReadsL encZ w.heap.size w a l) (h2 : ReadsL encZ w.heap.size w b r) :
    Calls Try.prog 20 #[.agg #[.int .i64 x, .slice a l.length c], .agg #[.int .i64 y, .slice b r.length d]] w fun e w' => e = .returned (.bool (decide (x = y) && decide (l = r))) ∧ Below w.heap.size w w' := by
  have hb1 : Below w.heap.size w (w.alloc (.cells #[.int .i64 x, .slice a l.length c] 34)) := (Below.refl _ _).alloc (Nat.le_refl _) _
  have hb2 := hb1.trans (((Below.refl _ _).alloc (Nat.le_refl _) (.cells #[.int .i64 y, .slice b r.length d] 34)).mono hb1.size)
  have t1 := (TwoAt.new w (.int .i64 x) (.slice a l.length c) 34).on ((Below.refl _ _).alloc (Nat.le_refl _) (.cells #[.int .i64 y, .slice b r.length d] 34)) (by simp)
  have t2 := TwoAt.new (w.alloc (.cells #[.int .i64 x, .slice a l.length c] 34)) (.int .i64 y) (.slice b r.length d) 34
  have hsz : (w.alloc (.cells #[.int .i64 x, .slice a l.length c] 34)).heap.size = w.heap.size + 1 := by simp
  rw [hsz] at t2
  have HB := Lib.hid hb2
  have H1 := Lib.hid (h1.over hb2 (Nat.le_refl _))
  have H2 := Lib.hid (h2.over hb2 (Nat.le_refl _))
  have HT := Lib.hid (And.intro t1 t2)
  have HP : Hid (∀ bb, bb = (decide (x = y) && decide (l = r)) → Ending.returned (.bool bb) = .returned (.bool (decide (x = y) && decide (l = r)))) := Lib.hid (fun bb e => by rw [e])
  clear h1 h2 hb1 hb2 t1 t2 hsz
  go_enter Try.func20, Try.ntmps20
  go_upto_region 1 with fail
  generalize (w.alloc (.cells #[.int .i64 x, .slice a l.length c] 34)).alloc (.cells #[.int .i64 y, .slice b r.length d] 34) = W at *
  generalize hX : w.heap.size = X at *
  have HX := Lib.hid hX
  clear hX
  obtain ⟨⟨c0, c1, -, -⟩, d0, d1, -, -⟩ := HT.out
  have l0 := HT.out.1.lt
  have l1 := HT.out.2.lt
  by_cases hxy : x = y
  · have HQ := Lib.hid (HP.out (decide (l = r)) (by rw [decide_eq_true hxy]; rfl))
    have t : (x == y) = true := by simpa using hxy
    clear hxy HP
    go_wp2_with fail
    refine (ints_any a b c d l r W H1.out H2.out hl).mono ?_
    rintro e w1 ⟨rfl, m, rfl⟩
    have HB2 := Lib.hid (below_drewN HB.out m)
    go_wp2
    go_ret
    exact ⟨HQ.out, by rw [HX.out]; exact HB2.out⟩
  · have HQ := Lib.hid (HP.out false (by rw [decide_eq_false hxy]; rfl))
    have t : (x == y) = false := by simpa using hxy
    clear hxy HP
    go_wp2
    go_ret
    exact ⟨HQ.out, by rw [HX.out]; exact HB.out⟩
end Go.Proofs.Ytbankocbncpepaa.Sd
