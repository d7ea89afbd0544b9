/- The library's sort of keys: what a sort of so many must answer; where there are twelve or fewer. -/
import Derived.Test.YtbebnhadgbkepaaKeyIns
import Derived.Test.YtbebnhadgbkepaaKeyShelf
namespace Go.Proofs.Ytbebnhadgbkepaa
open Go.RowKit ForderPure FbitPure
open Go.Sort hiding Below
/-- pdqsortOrdered sorts where there are no more than m between its ends. -/
def PdqOk (m : Nat) : Prop := ∀ (blk off cap a b limit : Nat) (d : Array Nat) (w : World), b - a ≤ m → Holds encU w blk off d → blk < w.heap.size → a ≤ b → b ≤ d.size → d.size < 4611686018427387904 → limit < 4611686018427387904 → Sort.Below ltB a b d →
    Calls Try.prog 39 #[.slice (some ⟨blk, off, none⟩) d.size cap, .int .i64 a, .int .i64 b, .int .i64 limit] w fun e w' =>
      e = .returned (.tuple #[]) ∧ Turned w blk off a b d (SortedIn ltB a b) w'
set_option maxHeartbeats 400000 in
theorem pdq_small (blk off cap a b limit : Nat) (d : Array Nat) (w : World) (h12 : b - a ≤ 12) (hH : Holds encU w blk off d) (hbk : blk < w.heap.size) (hab : a ≤ b) (hb : b ≤ d.size) (hsz : d.size < 4611686018427387904) :
    Calls Try.prog 39 #[.slice (some ⟨blk, off, none⟩) d.size cap, .int .i64 a, .int .i64 b, .int .i64 limit] w fun e w' =>
      e = .returned (.tuple #[]) ∧ Turned w blk off a b d (SortedIn ltB a b) w' := by
  have HI := Lib.hid (ins_any blk off cap a b d w hH hbk hab hb hsz)
  have hd : decide ((b : Int) - (a : Int) ≤ 12) = true := by simp; omega
  clear hH
  go_enter Try.func39, Try.ntmps39
  go_wp2
  go_loopw [1, 2] (fun va vb wr => va = .int .i64 a ∧ vb = .int .i64 b ∧ wr = w) (fun _ _ _ => 0)
  case atStart => exact ⟨rfl, rfl, rfl⟩
  case round =>
    obtain ⟨rfl, rfl, rfl⟩ := hrel
    go_wp2_with (first | (go_at_call 41; refine HI.out.mono ?_; rintro e w' ⟨rfl, ht⟩; have HT := Lib.hid ht; clear ht))
    exact bodyPost_ret (results_none rfl _ _ _) rfl ⟨rfl, HT.out⟩
theorem pdq_12 : PdqOk 12 := fun blk off cap a b limit d w h12 hH hbk hab hb hsz _ _ => pdq_small blk off cap a b limit d w h12 hH hbk hab hb hsz
/-- slices.Sort at so many keys. -/
def SortOk (m : Nat) : Prop := ∀ (blk off cap : Nat) (d : Array Nat) (w : World), d.size ≤ m → Holds encU w blk off d → blk < w.heap.size →
    Calls Try.prog 37 #[.slice (some ⟨blk, off, none⟩) d.size cap] w fun e w' =>
      e = .returned (.tuple #[]) ∧ Turned w blk off 0 d.size d (SortedIn ltB 0 d.size) w'
theorem len_any (n : Nat) (hn : n < 4611686018427387904) (w : World) : ∃ k : Nat, k < 4611686018427387904 ∧
    Calls Try.prog 40 #[.int .u64 n] w fun e w' => e = .returned (.int .i64 (k : Int)) ∧ w = w' := by
  have h := Try.bits_Len (n : Int) w (by omega) (by omega)
  rw [Int.toNat_natCast] at h
  obtain ⟨-, -⟩ : True ∧ True := ⟨trivial, trivial⟩
  by_cases h0 : n = 0
  · subst h0
    exact ⟨Lib.bitLen 0, by decide, h.mono fun _ _ ⟨h1, h2⟩ => ⟨h1, h2.symm⟩⟩
  · have hk := (bl_spec n h0 (by omega)).2.2.2
    exact ⟨Lib.bitLen n, by unfold bl at hk; omega, h.mono fun _ _ ⟨h1, h2⟩ => ⟨h1, h2.symm⟩⟩
set_option maxHeartbeats 400000 in
theorem sort_of (m : Nat) (hm : m < 4611686018427387904) (h : PdqOk m) : SortOk m := by
  intro blk off cap d w hd hH hbk
  obtain ⟨k, hk, hlen⟩ := len_any d.size (by omega) w
  have hp := h blk off cap 0 d.size k d w (by omega) hH hbk (by omega) (by omega) (by omega) hk (Or.inl rfl)
  have HL := Lib.hid hlen
  have HP := Lib.hid hp
  clear hlen hp hH h
  go_enter Try.func37, Try.ntmps37
  go_wp2_with (first
    | (go_at_call 40; refine HL.out.mono ?_; rintro e w' ⟨rfl, rfl⟩)
    | (go_at_call 39; refine HP.out.mono ?_; rintro e w' ⟨rfl, ht⟩; have HT := Lib.hid ht; clear ht))
  go_end0
  exact ⟨rfl, HT.out⟩
theorem sort_12 : SortOk 12 := sort_of 12 (by decide) pdq_12
end Go.Proofs.Ytbebnhadgbkepaa
