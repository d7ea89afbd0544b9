/- Contracts of word's cutting of a text: what each closure takes, the loop that cuts, the lines and the words of a text. -/
import Derived.Test.YthgalcfnaaboeaaWordCode
import Derived.Test.YthgalcfnaaboeaaCellAt
import Derived.Deep.RegionWith
import Derived.Deep.RegionHeld3
import Derived.Deep.QuietTactic
import Derived.BigQuiet
import Derived.WalkMore
namespace Go.Proofs.Ythgalcfnaaboeaa.Wd
open Go.RowKit Go.ChangeShapes WordPure Str
/-- What a closure has gathered in its variable, at block N. -/
def Gath (N : Nat) (w0 w : World) (xs : List (List UInt8)) : Prop :=
  Below N w0 w ∧ ∃ v, CellAt N w v ∧ w.ownsRow (N + 1) 9 1 v xs.length (xs.map encS)
theorem Gath.start (w : World) : Gath w.heap.size w (w.alloc (.cells #[.slice none 0 0] 22)) [] :=
  ⟨(Below.refl _ _).alloc (Nat.le_refl _) _, _, CellAt.new _ _ _, World.ownsRow_nil _ _ _ _⟩
theorem Gath.keep {N : Nat} {w0 w w' : World} {xs : List (List UInt8)} (h : Gath N w0 w xs) (hb : Below w.heap.size w w') : Gath N w0 w' xs := by
  obtain ⟨h1, v, h2, h3⟩ := h
  exact ⟨h1.trans (hb.mono (Nat.le_of_lt h2.lt)), v, h2.keep hb, owns_below h3 hb⟩
theorem Gath.step {N : Nat} {w0 w w' : World} {xs : List (List UInt8)} {v v' : Value} {o : Obj} (h1 : Below N w0 w) (h2 : CellAt N w v) (h3 : w.ownsRow (N + 1) 9 1 v xs.length (xs.map encS)) (x : List UInt8)
    (g1 : w'.ownsRow (N + 1) 9 1 v' (xs.length + 1) (xs.map encS ++ [encS x])) (g2 : (w.alloc o).grownBy w' v.ownBlock) : Gath N w0 (w'.setCell ⟨N, 0, none⟩ v') (xs ++ [x]) := by
  have hlt := h2.lt
  have hs : (w.alloc o).heap.size = w.heap.size + 1 := by simp
  have b1 : Below (N + 1) w w' := ((Below.refl (N + 1) w).alloc (by omega) o).grown g2 (by rw [hs]; omega) fun j hj => by have := (h3.lt j hj).1; omega
  have b1' : Below N w w' := b1.mono (by omega)
  have b2 : Below N w (w'.setCell ⟨N, 0, none⟩ v') := b1'.setCell (p := ⟨N, 0, none⟩) (Nat.le_refl N) v'
  refine ⟨h1.trans b2, v', (h2.on b1 (by omega)).set v', ?_⟩
  rw [List.map_append, List.length_append]
  exact owns_setCell g1 (by show N < N + 1; omega) v'
theorem Gath.reads {N : Nat} {w0 w : World} {xs : List (List UInt8)} (h : Gath N w0 w xs) : ∃ p cap, CellAt N w (.slice p xs.length cap) ∧ ReadsL encS w.heap.size w p xs ∧ xs.length ≤ cap := by
  obtain ⟨h1, v, h2, h3⟩ := h
  obtain ⟨p, cap, rfl, hr, hc⟩ := owns_readsL rfl h3
  exact ⟨p, cap, h2, hr, hc⟩
set_option maxHeartbeats 1000000 in
theorem takeLine_any (N : Nat) (w0 w : World) (xs : List (List UInt8)) (x : ByteArray) (h : Gath N w0 w xs) (hlen : xs.length ≤ 1000000000) :
    Calls Try.prog 22 #[.string x, .pointer (some ⟨N, 0, none⟩)] w fun e w' => e = .returned (.bool true) ∧ Gath N w0 w' (xs ++ [x.data.toList]) := by
  obtain ⟨i0, hi, hz0, hz1, hz2⟩ := info_of infoStr
  obtain ⟨h1, v, h2, h3⟩ := h
  have H1 := Lib.hid h1
  have H2 := Lib.hid h2
  have H3 := Lib.hid h3
  have hlt := h2.lt
  obtain ⟨c0, f0⟩ := h2
  clear h1 h3
  go_enter Try.func22, Try.ntmps22
  go_wp2_with (first
    | (at_builtin; refine wpList_append_own _ rfl _ _ 22 rfl (N + 1) 9 i0 (.string ⟨#[]⟩) 1 16 Try.underlying22 hi hz0 hz1 hz2 rfl (by decide) v xs.length (xs.map encS) rfl (H3.out.alloc _) ⟨w.heap.size, 0, none⟩ 1 1 [.string x] rfl rfl one_news (by intro u hu; simp at hu; subst hu; rfl) (by unfold maxLen; omega) (by omega) (by simp; omega) ?_))
  intro v' w3 hown hgrow _
  obtain ⟨p, cap, rfl, -, -⟩ := owns_readsL (enc := encS) (l := xs ++ [x.data.toList]) rfl (by rw [List.map_append, List.length_append]; show w3.ownsRow _ _ 1 v' (xs.length + 1) (xs.map encS ++ [encS x.data.toList]); unfold encS; rw [mk_self]; exact hown)
  have HG : Hid (Gath N w0 (w3.setCell ⟨N, 0, none⟩ (.slice p (xs ++ [x.data.toList]).length cap)) (xs ++ [x.data.toList])) := Lib.hid (Gath.step H1.out H2.out H3.out _ (by unfold encS; rw [mk_self]; exact hown) hgrow)
  have hs : (w.alloc (.cells #[.string x] 9)).heap.size = w.heap.size + 1 := by simp
  have b1 : Below (N + 1) w w3 := ((Below.refl (N + 1) w).alloc (by omega) _).grown hgrow (by rw [hs]; omega) fun j hj => by have := (H3.out.lt j hj).1; omega
  have c3 := (b1.cell (p := ⟨N, 0, none⟩) (Nat.lt_succ_self N)).trans c0
  have f3 := (b1.frozen (p := ⟨N, 0, none⟩) (Nat.lt_succ_self N)).trans f0
  have lt3 : N < w3.heap.size := World.block_lt_of_cell? w3 _ c3
  clear hown hgrow b1 hs
  go_wp2
  go_ret
  exact ⟨rfl, by have h := HG.out; rw [List.length_append, List.length_singleton] at h; exact h⟩
theorem byte_eq (c : UInt8) (n : Nat) (hn : n < 256) : ((c.toNat : Nat) : Int) = (n : Int) ↔ c = UInt8.ofNat n := by
  constructor
  · intro h
    apply UInt8.toNat.inj
    have : (UInt8.ofNat n).toNat = n := by simp; omega
    rw [this]; omega
  · intro h
    subst h
    have : (UInt8.ofNat n).toNat = n := by simp; omega
    rw [this]
/-- At the head of a round of cut. -/
def CutRel (c : UInt8) (N : Nat) (w0 : World) (l : List UInt8) (d : List (List UInt8)) (f k : Nat) (w : World) : Prop := At c l d f k ∧ Gath N w0 w d
set_option maxHeartbeats 2000000 in
theorem cutLines_any (s : ByteArray) (hs : s.size ≤ 100000000) (N : Nat) (w0 w : World) (h : Gath N w0 w []) :
    Calls Try.prog 21 #[.string s, .int .u8 10, .func (.func 22) #[] #[.pointer (some ⟨N, 0, none⟩)]] w
      fun e w' => ∃ (d : List (List UInt8)) (R : ByteArray), e = .returned (.string R) ∧ Gath N w0 w' d ∧ splitC 10 s.data.toList = d ++ [R.data.toList] := by
  have HS : Hid (CutRel 10 N w0 s.data.toList [] 0 0 w) := Lib.hid ⟨At.start _ _, h⟩
  have HSZ := Lib.hid (Lib.size_eq s)
  clear h
  go_enter Try.func21, Try.ntmps21
  go_wp2
  go_step3
  go_wp2
  go_step3
  go_wp2
  go_loopw [7, 11] (fun g i wr => ∃ (d : List (List UInt8)) (f k : Nat), g = .int .i64 f ∧ i = .int .i64 k ∧ f ≤ k ∧ k ≤ s.size ∧ Hid (CutRel 10 N w0 s.data.toList d f k wr)) (fun _ i _ => s.size - (intOf i).toNat)
  case atStart => exact ⟨[], 0, 0, rfl, rfl, Nat.le_refl _, Nat.zero_le _, HS⟩
  case round =>
    obtain ⟨d, f, k, rfl, rfl, hfk, hks, HF⟩ := hrel
    by_cases hk : k < s.size
    · have hkl : k < s.data.toList.length := by rw [← HSZ.out]; exact hk
      by_cases hc : s[k] = 10
      · have t : ((s[k].toNat : Nat) : Int) = 10 := (byte_eq s[k] 10 (by decide)).2 hc
        have HH := Lib.hid (HF.out.1.hit hkl hc)
        have HDL : Hid (d.length ≤ 1000000000) := Lib.hid (by have := HF.out.1.len; rw [← HSZ.out] at this; omega)
        clear hc
        go_wp2_with fail
        refine (takeLine_any N w0 wr d (s.extract f k) HF.out.2 HDL.out).mono ?_
        rintro e w1 ⟨rfl, hg⟩
        rw [extract_mid] at hg
        have HN : Hid (CutRel 10 N w0 s.data.toList (d ++ [(s.data.toList.drop f).take (k - f)]) (k + 1) (k + 1) w1) := Lib.hid ⟨HH.out.1, hg⟩
        clear hg
        go_wp2
        go_roundw
        case rel => exact ⟨_, k + 1, k + 1, by go_num, by go_num, Nat.le_refl _, hk, HN⟩
        case measure => simp [intOf]; omega
      · have t : ¬ ((s[k].toNat : Nat) : Int) = 10 := fun e => hc ((byte_eq s[k] 10 (by decide)).1 e)
        have HN : Hid (CutRel 10 N w0 s.data.toList d f (k + 1) wr) := Lib.hid ⟨HF.out.1.skip hkl hc, HF.out.2⟩
        clear hc
        go_wp2
        go_roundw
        case rel => exact ⟨d, f, k + 1, rfl, by go_num, by omega, hk, HN⟩
        case measure => simp [intOf]; omega
    · have HE : Hid (splitC 10 s.data.toList = d ++ [(s.extract f s.size).data.toList]) := Lib.hid (by rw [extract_rest]; exact HF.out.1.done (by rw [← HSZ.out]; exact hk))
      go_wp2
      rw [Exit.noGoto_ret]
      go_ret
      exact ⟨d, _, rfl, HF.out.2, HE.out⟩
end Go.Proofs.Ythgalcfnaaboeaa.Wd
