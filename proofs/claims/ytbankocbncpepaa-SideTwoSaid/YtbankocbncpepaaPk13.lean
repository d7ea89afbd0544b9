/- Texts that the laws of this seat stand on, part 13. -/
import Derived.Test.YtbankocbncpepaaPk12
import Derived.Test.YtbankocbncpepaaPk11
import Derived.Maps.OwnSet
import Derived.Maps.RangeWalk
import Derived.WideKeyPair
import Derived.WalkMore
/- The document's Other, Normal, Parts and Same (layer 21). -/
namespace Go.Proofs.Ytbankocbncpepaa.Sd
open Go.RowKit Go.ChangeShapes EdPure NtPure CutPure SdPure Cm
/-- Numbers in a block of the call's own. -/
def OwnI (l : List Int) (w : World) (e : Ending) (w' : World) : Prop := Below w.heap.size w w' ∧ ∃ v, e = .returned v ∧ w'.ownsRow w.heap.size 3 1 v l.length (l.map encZ)
theorem OwnI.ints {l : List Int} {w : World} {e : Ending} {w' : World} (h : OwnI l w e w') : IntsOf l w e w' := by
  obtain ⟨hb, v, rfl, ho⟩ := h
  obtain ⟨p, c, rfl, hr, -⟩ := owns_readsL rfl ho
  exact ⟨hb, p, c, rfl, hr⟩
set_option maxRecDepth 100000 in
set_option maxHeartbeats 2000000 in
theorem refOtherO_any (n : Nat) (hn : n ≤ 100000) (b : Option Addr) (d : Nat) (l : List Int) (hl : l.length ≤ 1000000000) (w : World) (hS : ReadsL encZ w.heap.size w b l) :
    Calls Try.prog 23 #[.int .i64 (n : Int), .slice b l.length d] w fun e w' => OwnI (othL l n) w e w' := by
  have HS := Lib.hid hS
  obtain ⟨ti, hi1, hi2, hi3, hi4⟩ := info_int
  clear hS
  go_enter Try.func23, Try.ntmps23
  go_wp2
  go_loopw [5, 6] (fun s i wr => ∃ (k : Nat) (v : Value), v = s ∧ i = .int .i64 k ∧ k ≤ n ∧ Hid (GrowRel encZ 3 w (othL l k) v wr)) (fun _ i _ => n - (intOf i).toNat)
  case atStart => exact ⟨0, _, rfl, rfl, Nat.zero_le _, Lib.hid (GrowRel.start _ _ _)⟩
  case round =>
    obtain ⟨k, v, rfl, rfl, hk, HK⟩ := hrel
    have hsz := HK.out.1.size
    by_cases hlt : k < n
    · have i1 : (k : Int) < (n : Int) := by omega
      have HI := Lib.hid (in_any b d l hl (k : Int) wr (HS.out.over HK.out.1 (Nat.le_refl _)))
      have hlen := oth_len l k
      have HO : Hid (othL l (k + 1) = othL l k ++ (if inS l (k : Int) = true then [] else [(k : Int)])) := Lib.hid rfl
      cases hb : inS l (k : Int) with
      | true =>
        rw [hb] at HI HO
        have HX : Hid (othL l (k + 1) = othL l k) := Lib.hid (by rw [HO.out, if_pos rfl, List.append_nil])
        clear hb HO
        go_wp2_with fail
        refine HI.out.mono ?_
        rintro e w1 ⟨rfl, rfl⟩
        clear HI
        go_wp2
        go_roundw
        case rel => exact ⟨k + 1, v, rfl, by go_num, hlt, by rw [HX.out]; exact HK⟩
        case measure => simp [intOf]; omega
      | false =>
        rw [hb] at HI HO
        have HX : Hid (othL l (k + 1) = othL l k ++ [(k : Int)]) := Lib.hid (by rw [HO.out, if_neg (by decide)])
        clear hb HO
        generalize othL l k = xs at *
        go_wp2_with fail
        refine HI.out.mono ?_
        rintro e w1 ⟨rfl, rfl⟩
        clear HI
        go_wp2_with (first
          | (at_builtin; refine wpList_append_own _ rfl _ _ 23 rfl w.heap.size 3 ti (.int .i64 0) 1 8 Try.underlying23 hi1 hi2 hi3 hi4 rfl (by decide) v xs.length (xs.map encZ) rfl (HK.out.2.alloc _) ⟨w1.heap.size, 0, none⟩ 1 1 [.int .i64 (k : Int)] rfl rfl one_news (by intro u hu; simp at hu; subst hu; rfl) (by unfold maxLen; omega) (by omega) (by simp; omega) ?_; intro v' w6 hown6 hg6 _; have hst := HK.out.step (k : Int) hown6 hg6; rw [← HX.out] at hst; have HS6 := Lib.hid hst; clear hst hown6 hg6))
        go_roundw
        case rel => exact ⟨k + 1, v', rfl, by go_num, hlt, HS6⟩
        case measure => simp [intOf]; omega
    · obtain rfl : k = n := by omega
      obtain ⟨p, cp, rfl, -⟩ := HK.out.reads
      have HKK := HK
      clear HK
      go_wp2
      go_ret
      exact ⟨HKK.out.1, _, rfl, HKK.out.2⟩
theorem refOther_any (n : Nat) (hn : n ≤ 100000) (b : Option Addr) (d : Nat) (l : List Int) (hl : l.length ≤ 1000000000) (w : World) (hS : ReadsL encZ w.heap.size w b l) :
    Calls Try.prog 23 #[.int .i64 (n : Int), .slice b l.length d] w fun e w' => IntsOf (othL l n) w e w' := (refOtherO_any n hn b d l hl w hS).mono fun _ _ h => h.ints
theorem refNormal_any (n : Nat) (hn : n ≤ 100000) (b : Option Addr) (d : Nat) (l : List Int) (hl : l.length ≤ 1000000000) (w : World) (hS : ReadsL encZ w.heap.size w b l) :
    Calls Try.prog 19 #[.int .i64 (n : Int), .slice b l.length d] w fun e w' => IntsOf (normL n l) w e w' := by
  have HS := Lib.hid hS
  have HI := Lib.hid (in_any b d l hl 0 w hS)
  clear hS
  unfold normL
  cases hb : inS l 0 with
  | true =>
    rw [hb] at HI
    rw [if_pos rfl, Int.toNat_natCast]
    clear hb
    go_enter Try.func19, Try.ntmps19
    go_wp2_with fail
    refine HI.out.mono ?_
    rintro e w1 ⟨rfl, rfl⟩
    go_wp2_with fail
    refine (refOther_any n hn b d l hl _ HS.out).mono ?_
    rintro e w2 ⟨hb2, q, c, rfl, hr⟩
    have HB := Lib.hid hb2
    have HR := Lib.hid hr
    clear hb2 hr
    go_wp2
    go_ret
    exact ⟨HB.out, q, c, rfl, HR.out⟩
  | false =>
    rw [hb] at HI
    rw [if_neg (by decide)]
    clear hb
    go_enter Try.func19, Try.ntmps19
    go_wp2_with fail
    refine HI.out.mono ?_
    rintro e w1 ⟨rfl, rfl⟩
    go_wp2
    go_ret
    exact ⟨Below.refl _ _, b, d, rfl, HS.out⟩
set_option maxHeartbeats 1000000 in
theorem refParts_any (n : Int) (b : Option Addr) (d : Nat) (l : List Int) (hl : l.length ≤ 1000000000) (u v : Int) (w : World) (hS : ReadsL encZ w.heap.size w b l) :
    Calls Try.prog 22 #[.int .i64 n, .slice b l.length d, .int .i64 u, .int .i64 v] w fun e w' => e = .returned (.bool (partsB n l u v)) ∧ ∃ m, w' = w.drewN m := by
  have HS := Lib.hid hS
  have HC := Lib.hid (refCheck_any n b d l hl w hS)
  have HI := Lib.hid (fun x m => in_any b d l hl x (w.drewN m) HS.out)
  have HP : Hid (partsB n l u v = (decide (chkS n l = 0) && (decide (0 ≤ u) && (decide (u < n) && (decide (0 ≤ v) && (decide (v < n) && (inS l u != inS l v))))))) := Lib.hid rfl
  clear hS
  generalize partsB n l u v = pb at *
  generalize chkS n l = z at *
  generalize inS l = S at *
  have fin : ∀ x, pb = x → ∀ m, Ending.returned (.bool x) = .returned (.bool pb) ∧ ∃ m', w.drewN m = w.drewN m' := fun x hx m => ⟨by rw [hx], m, rfl⟩
  have FIN := Lib.hid fin
  clear fin
  by_cases c0 : z = 0
  case neg =>
    have HX : Hid (pb = false) := Lib.hid (by rw [HP.out, decide_eq_false c0]; rfl)
    have t0 : (z == 0) = false := by simpa using c0
    clear c0
    go_enter Try.func22, Try.ntmps22
    go_wp2_with fail
    refine HC.out.mono ?_
    rintro e w1 ⟨rfl, m, rfl⟩
    go_wp2
    go_ret
    exact FIN.out _ HX.out m
  subst c0
  by_cases c1 : 0 ≤ u
  case neg =>
    have HX : Hid (pb = false) := Lib.hid (by rw [HP.out, decide_eq_false c1]; simp)
    go_enter Try.func22, Try.ntmps22
    go_wp2_with fail
    refine HC.out.mono ?_
    rintro e w1 ⟨rfl, m, rfl⟩
    go_wp2
    go_ret
    exact FIN.out _ HX.out m
  by_cases c2 : u < n
  case neg =>
    have HX : Hid (pb = false) := Lib.hid (by rw [HP.out, decide_eq_false c2]; simp)
    go_enter Try.func22, Try.ntmps22
    go_wp2_with fail
    refine HC.out.mono ?_
    rintro e w1 ⟨rfl, m, rfl⟩
    go_wp2
    go_ret
    exact FIN.out _ HX.out m
  by_cases c3 : 0 ≤ v
  case neg =>
    have HX : Hid (pb = false) := Lib.hid (by rw [HP.out, decide_eq_false c3]; simp)
    go_enter Try.func22, Try.ntmps22
    go_wp2_with fail
    refine HC.out.mono ?_
    rintro e w1 ⟨rfl, m, rfl⟩
    go_wp2
    go_ret
    exact FIN.out _ HX.out m
  by_cases c4 : v < n
  case neg =>
    have HX : Hid (pb = false) := Lib.hid (by rw [HP.out, decide_eq_false c4]; simp)
    go_enter Try.func22, Try.ntmps22
    go_wp2_with fail
    refine HC.out.mono ?_
    rintro e w1 ⟨rfl, m, rfl⟩
    go_wp2
    go_ret
    exact FIN.out _ HX.out m
  have HX : Hid (pb = (S u != S v)) := Lib.hid (by rw [HP.out, decide_eq_true (rfl : (0 : Int) = 0), decide_eq_true c1, decide_eq_true c2, decide_eq_true c3, decide_eq_true c4]; rfl)
  go_enter Try.func22, Try.ntmps22
  go_wp2_with fail
  refine HC.out.mono ?_
  rintro e w1 ⟨rfl, m, rfl⟩
  go_wp2_with fail
  refine (HI.out u m).mono ?_
  rintro e w2 ⟨rfl, rfl⟩
  go_wp2_with fail
  refine (HI.out v m).mono ?_
  rintro e w2 ⟨rfl, rfl⟩
  go_wp2
  go_ret
  exact FIN.out _ HX.out m
/-- What the program answers: numbers, or a cut, and why there are none. -/
def SideL (L : List Int) (z : Int) (w : World) (e : Ending) (w' : World) : Prop := Below w.heap.size w w' ∧ ∃ q c, e = .returned (.tuple #[.slice q L.length c, .int .i64 z]) ∧ ReadsL encZ w'.heap.size w' q L
def SideC (x : Int) (L : List Int) (z : Int) (w : World) (e : Ending) (w' : World) : Prop := Below w.heap.size w w' ∧ ∃ q c, e = .returned (.tuple #[.agg #[.int .i64 x, .slice q L.length c], .int .i64 z]) ∧ ReadsL encZ w'.heap.size w' q L
/-- The same cut? -/
theorem refSame_any (x y : Int) (a b : Option Addr) (c d : Nat) (l r : List Int) (hl : l.length ≤ 1000000000) (w : World) (h1 : ReadsL encZ w.heap.size w a l) (h2 : ReadsL encZ w.heap.size w b r) :
    Calls Try.prog 20 #[.agg #[.int .i64 x, .slice a l.length c], .agg #[.int .i64 y, .slice b r.length d]] w fun e w' => e = .returned (.bool (decide (x = y) && decide (l = r))) ∧ Below w.heap.size w w' := by
  have hb1 : Below w.heap.size w (w.alloc (.cells #[.int .i64 x, .slice a l.length c] 34)) := (Below.refl _ _).alloc (Nat.le_refl _) _
  have hb2 := hb1.trans (((Below.refl _ _).alloc (Nat.le_refl _) (.cells #[.int .i64 y, .slice b r.length d] 34)).mono hb1.size)
  have t1 := (TwoAt.new w (.int .i64 x) (.slice a l.length c) 34).on ((Below.refl _ _).alloc (Nat.le_refl _) (.cells #[.int .i64 y, .slice b r.length d] 34)) (by simp)
  have t2 := TwoAt.new (w.alloc (.cells #[.int .i64 x, .slice a l.length c] 34)) (.int .i64 y) (.slice b r.length d) 34
  have hsz : (w.alloc (.cells #[.int .i64 x, .slice a l.length c] 34)).heap.size = w.heap.size + 1 := by simp
  rw [hsz] at t2
  have HB := Lib.hid hb2
  have H1 := Lib.hid (h1.over hb2 (Nat.le_refl _))
  have H2 := Lib.hid (h2.over hb2 (Nat.le_refl _))
  have HT := Lib.hid (And.intro t1 t2)
  have HP : Hid (∀ bb, bb = (decide (x = y) && decide (l = r)) → Ending.returned (.bool bb) = .returned (.bool (decide (x = y) && decide (l = r)))) := Lib.hid (fun bb e => by rw [e])
  clear h1 h2 hb1 hb2 t1 t2 hsz
  go_enter Try.func20, Try.ntmps20
  go_upto_region 1 with fail
  generalize (w.alloc (.cells #[.int .i64 x, .slice a l.length c] 34)).alloc (.cells #[.int .i64 y, .slice b r.length d] 34) = W at *
  generalize hX : w.heap.size = X at *
  have HX := Lib.hid hX
  clear hX
  obtain ⟨⟨c0, c1, -, -⟩, d0, d1, -, -⟩ := HT.out
  have l0 := HT.out.1.lt
  have l1 := HT.out.2.lt
  by_cases hxy : x = y
  · have HQ := Lib.hid (HP.out (decide (l = r)) (by rw [decide_eq_true hxy]; rfl))
    have t : (x == y) = true := by simpa using hxy
    clear hxy HP
    go_wp2_with fail
    refine (ints_any a b c d l r W H1.out H2.out hl).mono ?_
    rintro e w1 ⟨rfl, m, rfl⟩
    have HB2 := Lib.hid (below_drewN HB.out m)
    go_wp2
    go_ret
    exact ⟨HQ.out, by rw [HX.out]; exact HB2.out⟩
  · have HQ := Lib.hid (HP.out false (by rw [decide_eq_false hxy]; rfl))
    have t : (x == y) = false := by simpa using hxy
    clear hxy HP
    go_wp2
    go_ret
    exact ⟨HQ.out, by rw [HX.out]; exact HB.out⟩
end Go.Proofs.Ytbankocbncpepaa.Sd
/- A map keyed by pairs that the call makes: what it tells, beside the list of merged edges that it stands for. -/
namespace Go.Proofs.Ytbankocbncpepaa
open Go.RowKit Go.ChangeShapes Go.Maps Go.WideMaps EdPure NumPure
/-- A pair, as an array. -/
def encP (p : Int × Int) : Value := .agg #[.int .i64 p.1, .int .i64 p.2]
theorem arrP : ArrKey Try.prog 51 3 2 := ⟨Try.underlying51, by kernel_rfl, by kernel_rfl, by kernel_rfl⟩
theorem lawP : Keyed Try.prog 51 := Keyed.of_law arrP.law
theorem typesP : ∃ m, Try.prog.types.size = m + 1 := ⟨Try.prog.types.size - 1, by kernel_rfl⟩
/-- What a pair reads as. -/
def kP (u v : Int) : Lit := .string (keyBytes [.int .i64 u, .int .i64 v])
theorem keyP {u v : Int} (hu : In u) (hv : In v) : keyOf Try.prog 51 (encP (u, v)) = some (kP u v) :=
  keyOf_pair arrP Try.underlying3 typesP (WalkArith.wf_i64 (by unfold In at hu; omega)) (WalkArith.wf_i64 (by unfold In at hv; omega))
theorem kP_key {u v : Int} (hu : In u) (hv : In v) : WideAt.IsKeyLit (kP u v) := lawP.key (keyP hu hv)
theorem kP_inj {u v u' v' : Int} (hu : In u) (hv : In v) (hu' : In u') (hv' : In v') (h : kP u v = kP u' v') : u = u' ∧ v = v' := by
  have := lawP.inj (keyP hu hv) (by rw [h]; exact keyP hu' hv')
  unfold encP at this
  simp only [Value.agg.injEq, Array.mk.injEq, List.cons.injEq, Value.int.injEq, true_and, and_true] at this
  exact this
theorem kP_ne {u v u' v' : Int} (hu : In u) (hv : In v) (hu' : In u') (hv' : In v') (h : ¬ (u = u' ∧ v = v')) : kP u v ≠ kP u' v' := fun e => h (kP_inj hu hv hu' hv' e)
set_option maxRecDepth 20000 in
theorem keyP_inv {v : Value} {kl : Lit} (h : keyOf Try.prog 51 v = some kl) : ∃ a b : Int, v = encP (a, b) ∧ In a ∧ In b ∧ kl = kP a b := by
  have h0 := h
  obtain ⟨m, hm⟩ := typesP
  unfold keyOf at h
  simp only [Try.underlying51] at h
  split at h
  · rename_i hc
    rw [Bool.and_eq_true] at hc
    have hf := hc.2
    cases v with
    | agg cs =>
      have hs : cs.size = 2 := by simpa [Value.formed, Try.underlying51, arrP.size] using hf
      obtain ⟨l⟩ := cs
      match l, hs with
      | [c0, c1], _ =>
        rw [Option.map_eq_some_iff] at h
        obtain ⟨ls, h1, -⟩ := h
        rw [hm] at h1
        unfold Program.keyLits at h1
        simp only [Try.underlying51, Value.cells] at h1
        rw [if_pos (by rw [arrP.size]; rfl), show List.range 2 = [0, 1] from rfl, List.mapM_cons, List.mapM_cons, List.mapM_nil] at h1
        simp only [bind, Option.bind_eq_some_iff, pure, Option.some.injEq, arrP.one, Option.map_eq_some_iff] at h1
        obtain ⟨xs, ⟨y0, g0, _, ⟨y1, g1, _, rfl, rfl⟩, rfl⟩, -⟩ := h1
        have one : ∀ {c : Value} {y : List Lit}, Try.prog.keyLits (m + 1) 3 [c] = some y → ∃ n, c = .int .i64 n ∧ (Lit.int .i64 n).wf = true := by
          intro c y hy
          unfold Program.keyLits at hy
          simp only [Try.underlying3] at hy
          cases c <;> simp at hy
          obtain ⟨⟨rfl, hw⟩, -⟩ := hy
          exact ⟨_, rfl, hw⟩
        have o0 : ∃ n, c0 = .int .i64 n ∧ (Lit.int .i64 n).wf = true := one (y := y0) (by simpa using g0)
        have o1 : ∃ n, c1 = .int .i64 n ∧ (Lit.int .i64 n).wf = true := one (y := y1) (by simpa using g1)
        obtain ⟨a, rfl, wa⟩ := o0
        obtain ⟨b, rfl, wb⟩ := o1
        have ia : In a := bounds_i64 wa
        have ib : In b := bounds_i64 wb
        exact ⟨a, b, rfl, ia, ib, Option.some.inj (h0.symm.trans (keyP ia ib))⟩
    | _ => simp [Value.formed, Try.underlying51] at hf
  · cases h
def dI (z : Int) : DataW Unit := .lit (.int .i64 z)
/-- What the map tells: of each pair whether it is there, and what it weighs. -/
def MapIs (M : List Ed) (D : DataW Unit) : Prop :=
  Tidy D ∧ (∀ u v, In u → In v → has D (kP u v) = hasM M u v) ∧ (∀ u v, In u → In v → D.atKey (kP u v) (dI 0) = dI (wOf M u v)) ∧ size D = M.length
theorem MapIs.empty : MapIs [] (.map []) := ⟨tidy_empty, fun _ _ _ _ => rfl, fun _ _ _ _ => rfl, rfl⟩
theorem MapIs.add {M M' : List Ed} {D : DataW Unit} (h : MapIs M D) (hM : M.Pairwise lt2) {e : Ed} (hu : In e.1) (hv : In e.2.1) (ha : addL M e = some M') : MapIs M' (D.put (kP e.1 e.2.1) (dI (wOf M e.1 e.2.1 + e.2.2))) := by
  obtain ⟨h1, h2, h3, h4⟩ := h
  obtain ⟨a1, a2, -, -, a5⟩ := add_some hM ha
  have hk := kP_key hu hv
  refine ⟨h1.put hk _, fun u v iu iv => ?_, fun u v iu iv => ?_, ?_⟩
  · rw [a1]
    by_cases hx : isAt u v e
    · obtain ⟨x1, x2⟩ := hx
      subst x1 x2
      rw [has_put_same h1.isMap hk, decide_eq_true (p := isAt e.1 e.2.1 e) ⟨rfl, rfl⟩, Bool.or_true]
    · rw [has_put_other (kP_ne iu iv hu hv (fun e2 => hx ⟨e2.1.symm, e2.2.symm⟩)), h2 u v iu iv, decide_eq_false hx, Bool.or_false]
  · rw [a2]
    by_cases hx : isAt u v e
    · rw [if_pos hx]
      obtain ⟨x1, x2⟩ := hx
      subst x1 x2
      rw [atKey_put_same h1.isMap hk]
    · rw [atKey_put_other (kP_ne iu iv hu hv (fun e2 => hx ⟨e2.1.symm, e2.2.symm⟩)), if_neg hx, h3 u v iu iv]
  · rw [size_put h1, h2 _ _ hu hv, h4, a5]
theorem map_addP {M M' : List Ed} {D : DataW Unit} (h : MapIs M D) (hM : M.Pairwise lt2) {p q y : Int} (hu : In p) (hv : In q) (ha : addL M (p, q, y) = some M') {z : Int} (hz : wOf M p q = z) : MapIs M' (D.put (kP p q) (dI (z + y))) := by
  have := MapIs.add (e := (p, q, y)) h hM hu hv ha
  rw [← hz]
  exact this
def OwnsD (w : World) (m k : Nat) (D : DataW Unit) : Prop := w.ownsMap Try.prog 51 (plainElem (H := Unit) Try.prog 2) m k D
theorem map_tight {w : World} {m k : Nat} {D : DataW Unit} (h : OwnsD w m k D) : OwnsD w m (size D) D := by
  obtain ⟨es, clock, hb, F, _, rfl⟩ := h
  exact ⟨es, clock, hb, F, by simp [Maps.size, length_sorted], rfl⟩
theorem map_over {w w' : World} {m k : Nat} {D : DataW Unit} (h : OwnsD w m k D) (e : w'.heap[m]? = w.heap[m]?) : OwnsD w' m k D := by
  obtain ⟨es, clock, hb, r⟩ := h
  exact ⟨es, clock, e.trans hb, r⟩
theorem map_on {w w' : World} {m k : Nat} {D : DataW Unit} (h : OwnsD w m k D) (hb : Below w.heap.size w w') : OwnsD w' m k D := map_over h (hb.block m h.lt)
theorem zero64 (w : World) : (zeroValue 2).run Try.prog w = .ok (.int .i64 0) w := by kernel_rfl
set_option maxRecDepth 20000 in
/-- What a look-up tells. -/
theorem look_any {w : World} {m k : Nat} {M : List Ed} {D : DataW Unit} (h : OwnsD w m k D) (hD : MapIs M D) {u v : Int} (hu : In u) (hv : In v) :
    (Instr.lookup 83 (.map (some m)) (.agg #[.int .i64 u, .int .i64 v]) false).run Try.prog w = .ok (.int .i64 (wOf M u v)) w := by
  obtain ⟨c, hrun, hat, -⟩ := h.lookup_int lawP Try.underlying83 Try.underlying2 (zero64 w) (keyP hu hv)
  have := hat.symm.trans (hD.2.2.1 u v hu hv)
  unfold dI at this
  injection this with e
  injection e with _ e
  unfold encP at hrun
  rw [hrun, e]
end Go.Proofs.Ytbankocbncpepaa
