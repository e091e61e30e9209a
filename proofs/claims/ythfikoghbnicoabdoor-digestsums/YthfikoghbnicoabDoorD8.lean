/- Contracts of octet.Fixed and padding. -/
import Derived.Test.YthfikoghbnicoabDoorD7
namespace Go.Proofs.YthfikoghbnicoabDoor
open Go.RowKit

/-- The lowest i bytes of a number, the highest first. -/
def fixB (n : Nat) : Nat → List Int
  | 0 => []
  | i + 1 => ((n / 256 ^ i % 256 : Nat) : Int) :: fixB n i

theorem fixB_length (n i : Nat) : (fixB n i).length = i := by induction i with | zero => rfl | succ i ih => simp [fixB, ih]

theorem fixB_byte (n i : Nat) : ∀ x ∈ fixB n i, 0 ≤ x ∧ x < 256 := by
  induction i with
  | zero => simp [fixB]
  | succ i ih => intro x hx; simp only [fixB, List.mem_cons] at hx; rcases hx with rfl | hx; · omega
                 · exact ih x hx

/-- One byte more is laid, from the end on. -/
theorem fix_step (n W i : Nat) (h : i < W) : (List.replicate (W - i) (0 : Int) ++ fixB n i).set (W - 1 - i) ((n / 256 ^ i % 256 : Nat) : Int) = List.replicate (W - (i + 1)) 0 ++ fixB n (i + 1) := by
  have e1 : W - i = (W - (i + 1)) + 1 := by omega
  have e2 : W - 1 - i = W - (i + 1) := by omega
  rw [e1, List.replicate_succ', e2, List.append_assoc, List.set_append_right _ _ (by simp)]
  simp [fixB]

theorem width_yes (n : Int) (w : World) (h0 : 1 ≤ n) (h1 : n ≤ 8) : Calls Tryd.prog 30 #[.int .i64 n] w fun e w' => e = .returned (.bool true) ∧ w = w' := by
  go_enter Tryd.func30, Tryd.ntmps30
  go_wp2
  go_ret
  exact ⟨by simp, rfl⟩

theorem pow8 (i : Nat) : (2 : Nat) ^ (8 * i) = 256 ^ i := by rw [Nat.pow_mul]

theorem shr8 (n i : Nat) : (n : Int) / 2 ^ (8 * i) = ((n / 256 ^ i : Nat) : Int) := by rw [← pow8]; simp

set_option maxHeartbeats 1000000 in
set_option maxRecDepth 1000000 in
theorem fixed_good (n W : Nat) (w : World) (h : n ≤ 9007199254740991) (hW : 1 ≤ W) (hW8 : W ≤ 8) (hn : n / 256 ^ W = 0) :
    Calls Tryd.prog 27 #[.int .i64 n, .int .i64 W] w fun e w' => ∃ v, e = .returned (.tuple #[v, .int .i64 0]) ∧ OwnB w' w.heap.size 5 v (fixB n W) ∧ Below w.heap.size w w' := by
  have h0 : ¬ (n : Int) < 0 := by omega
  have h1 : ¬ 9007199254740991 < (n : Int) := by omega
  have hs : ((n : Int) / 2 ^ (8 * W) != 0) = false := by rw [shr8, hn]; simp
  clear hn
  go_enter Tryd.func27, Tryd.ntmps27
  go_wp2_with (first
    | (go_at_call 30; refine (width_yes _ _ (by omega) (by omega)).mono ?_; rintro e w' ⟨rfl, rfl⟩)
    | (at_make; refine wp_makeB Tryd.bt rfl _ _ rfl W rfl rfl rfl rfl (by omega) (Nat.le_refl _) ?_; intro w1 hown hnx))
  go_loopw [27] (fun i wr => ∃ k : Nat, k ≤ W ∧ i = .int .i64 k ∧ OwnB wr w.heap.size 5 (.slice (some ⟨w.heap.size, 0, none⟩) W W) (List.replicate (W - k) 0 ++ fixB n k) ∧ Below w.heap.size w wr) (fun i _ => W - (intOf i).toNat)
  case atStart => exact ⟨0, Nat.zero_le _, rfl, by simpa [fixB] using hown, hnx⟩
  case round =>
    clear hown hnx
    obtain ⟨k, hk, rfl, hown, hnx⟩ := hrel
    by_cases hlt : k < W
    · have hcell := hown.cellAt (W - 1 - k) (by simp [fixB_length]; omega)
      have hfz := hown.frozenAt (W - 1 - k)
      go_wp2
      go_roundw
      case rel =>
        obtain ⟨g1, g2⟩ := hown.stored (Nat.le_refl _) (W - 1 - k) ((n : Int) / 2 ^ (8 * k) % 256)
        refine ⟨k + 1, by omega, by go_num, ?_, hnx.trans g2⟩
        rw [← fix_step n W k hlt]
        have e : ((n / 256 ^ k % 256 : Nat) : Int) = (n : Int) / 2 ^ (8 * k) % 256 := by rw [shr8]; simp
        rw [e]; exact g1
      case measure => simp [intOf]; omega
    · have : k = W := by omega
      subst this
      go_wp2
      go_ret2
      exact ⟨_, rfl, by simpa using hown, hnx⟩

/-- How many zeros stand behind the mark. -/
def zer (n : Nat) : Nat := 63 - (n % 64 + 8) % 64
/-- What makes n bytes whole blocks. -/
def padB (n : Nat) : List Int := (128 :: List.replicate (zer n) 0) ++ fixB (8 * n) 8
theorem padB_length (n : Nat) : (padB n).length = 1 + zer n + 8 := by simp [padB, fixB_length]; omega
theorem padB_byte (n : Nat) : ∀ x ∈ padB n, 0 ≤ x ∧ x < 256 := by
  intro x hx
  simp only [padB, List.cons_append, List.mem_cons, List.mem_append, List.mem_replicate] at hx
  rcases hx with rfl | ⟨_, rfl⟩ | hx
  · decide
  · decide
  · exact fixB_byte _ _ x hx

theorem own_pad {w1 : World} {g base z cap : Nat} (h : OwnB w1 base 5 (.slice (some ⟨g, 0, none⟩) (1 + z) cap) (List.replicate (1 + z) 0)) (hg : base ≤ g := by exact Nat.le_refl _) :
    OwnB (w1.setCell ⟨g, 0, none⟩ (.int .u8 128)) base 5 (.slice (some ⟨g, 0, none⟩) (1 + z) cap) (128 :: List.replicate z 0) := by
  have g1 := (h.stored hg 0 128).1
  have e1 : (List.replicate (1 + z) (0 : Int)).set 0 128 = 128 :: List.replicate z 0 := by rw [Nat.add_comm, List.replicate_succ]; rfl
  rw [e1] at g1
  exact g1
theorem fixed8 (n : Nat) (w : World) (h : n ≤ 1125899906842623) :
    Calls Tryd.prog 27 #[.int .i64 (8 * (n : Int)), .int .i64 8] w fun e w' => ∃ v, e = .returned (.tuple #[v, .int .i64 0]) ∧ OwnB w' w.heap.size 5 v (fixB (8 * n) 8) ∧ Below w.heap.size w w' := by
  have := fixed_good (8 * n) 8 w (by omega) (by decide) (by decide) (by rw [Nat.div_eq_zero_iff]; right; omega)
  have e : ((8 * n : Nat) : Int) = 8 * (n : Int) := by omega
  rw [e] at this
  exact this

set_option maxHeartbeats 1000000 in
theorem padding_any (n : Nat) (w : World) (h : n ≤ 1125899906842623) : Calls Tryd.prog 24 #[.int .i64 n] w fun e w' => ∃ v, e = .returned v ∧ OwnB w' w.heap.size 5 v (padB n) ∧ Below w.heap.size w w' := by
  have hz : (63 : Int) - ((n : Int) + 8) % 64 = (zer n : Int) := by unfold zer; omega
  have hz2 : zer n ≤ 63 := by unfold zer; omega
  go_enter Tryd.func24, Tryd.ntmps24
  go_wp2_with (first
    | (at_make; refine wp_makeB Tryd.bt rfl _ _ rfl (1 + zer n) rfl rfl (by omega) (by omega) (by omega) (Nat.le_refl _) ?_; intro w1 hown hnx; have hc := hown.cellAt 0 (by simp; omega); have hf := hown.frozenAt 0)
    | (go_at_call 27; refine (fixed8 n _ h).mono ?_; rintro e w2 ⟨v2, rfl, hown2, hb2⟩)
    | (at_builtin; refine wp_appS Tryd.bt rfl (.tmp 23) (.tmp 24) rfl rfl ((own_pad hown).below hb2) rfl hown2.bs (by simp [fixB_length]; omega) (by have := hnx.size; have := hb2.size; simp at this; omega) ?_; intro v3 w3 hown3 hb3))
  go_ret
  refine ⟨_, rfl, hown3, ?_⟩
  have g1 := (hown.stored (Nat.le_refl _) 0 128).2
  exact ((hnx.trans g1).trans (hb2.mono (by have := hnx.size; simpa using this))).trans hb3
end Go.Proofs.YthfikoghbnicoabDoor
