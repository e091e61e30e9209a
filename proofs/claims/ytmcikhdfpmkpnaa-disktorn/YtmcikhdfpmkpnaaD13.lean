/- Package disk's outlived, whole. -/
import Derived.Test.YtmcikhdfpmkpnaaD12
namespace Go.Proofs.Ytmcikhdfpmkpnaa
open Go.RowKit Go.Maps Go.Sort Go.Shelf

theorem mix_all {s l : List Int} (hs : s.length = 128) (hl : l.length = 128) : mix 128 s l = l := by
  unfold mix
  rw [List.take_of_length_le (by omega), List.drop_eq_nil_of_le (by omega), List.append_nil]
theorem mix_none (s l : List Int) : mix 0 s l = s := by simp [mix]

theorem outlived_any (w : World) (kv : Value) (ks : List Bool) (torn at' : Int) (k : Nat) (s l : List Int) (hs : Pg s) (hl : Pg l) (hk : Ks w kv ks) :
    Calls Try.prog 32 #[.agg #[kv, .int .i64 torn, .int .i64 at'], .int .i64 (k : Int), .agg (pa s), .agg (pa l)] w fun e w' => e = .returned (.agg (pa (outl ⟨ks, torn, at'⟩ k s l))) ∧ Below w.heap.size w w' := by
  unfold outl
  simp only
  have rest : ¬ ((k : Int) = torn ∧ 0 ≤ at' ∧ at' ≤ 128) → Calls Try.prog 32 #[.agg #[kv, .int .i64 torn, .int .i64 at'], .int .i64 (k : Int), .agg (pa s), .agg (pa l)] w fun e w' => e = .returned (.agg (pa (if k < ks.length ∧ ks.getD k false = true then l else s))) ∧ Below w.heap.size w w' := by
    intro hn
    by_cases hkl : k < ks.length
    · by_cases hkt : ks.getD k false = true
      · rw [if_pos ⟨hkl, hkt⟩]
        by_cases ht : (k : Int) = torn
        · by_cases h0 : at' < 0
          · have := outl_keepb w kv ks torn at' k s l hs hl hk ht h0 hkl hkt
            rwa [mix_all hs.1 hl.1] at this
          · have := outl_keepc w kv ks torn at' k s l hs hl hk ht (by omega) hkl hkt
            rwa [mix_all hs.1 hl.1] at this
        · have := outl_keepa w kv ks torn at' k s l hs hl hk ht hkl hkt
          rwa [mix_all hs.1 hl.1] at this
      · rw [if_neg (fun q => hkt q.2)]
        have hkf : ks.getD k false = false := by simpa using hkt
        by_cases ht : (k : Int) = torn
        · by_cases h0 : at' < 0
          · have := outl_dropb w kv ks torn at' k s l hs hl hk ht h0 hkl hkf
            rwa [mix_none] at this
          · have := outl_dropc w kv ks torn at' k s l hs hl hk ht (by omega) hkl hkf
            rwa [mix_none] at this
        · have := outl_dropa w kv ks torn at' k s l hs hl hk ht hkl hkf
          rwa [mix_none] at this
    · rw [if_neg (fun q => hkl q.1)]
      by_cases ht : (k : Int) = torn
      · by_cases h0 : at' < 0
        · have := outl_noneb w kv ks torn at' k s l hs hl hk ht h0 hkl
          rwa [mix_none] at this
        · have := outl_nonec w kv ks torn at' k s l hs hl hk ht (by omega) hkl
          rwa [mix_none] at this
      · have := outl_nonea w kv ks torn at' k s l hs hl hk ht hkl
        rwa [mix_none] at this
  by_cases hc : (k : Int) = torn ∧ 0 ≤ at' ∧ at' ≤ 128
  · rw [if_pos hc]
    exact outl_torn w kv ks torn at' k s l hs hl hk hc.1 hc.2.1 hc.2.2
  · rw [if_neg hc]
    exact rest hc

/-- Behind j of the dirty sectors. -/
theorem crash_round (c : Cr) (S : List Sec) (hok : ∀ s ∈ S, OkS s) {j i : Nat} (hj : j < (dl S).length) (hi : i = (dl S).getD j 0) :
    i < S.length ∧ ∃ s l, sec S i = (s, some l) ∧ sec (crashJ c S j) i = (s, some l) ∧ Pg s ∧ Pg l ∧ crashJ c S (j + 1) = (crashJ c S j).set i (outl c j s l, none) := by
  obtain ⟨h1, h2, h3⟩ := dl_get hj
  rw [← hi] at h1 h2 h3
  obtain ⟨l, hl⟩ : ∃ l, (sec S i).2 = some l := by
    unfold dirt at h2
    exact Option.isSome_iff_exists.1 h2
  have hs : sec S i = ((sec S i).1, some l) := by rw [← hl]
  have ho := ok_sec hok i
  refine ⟨h1, (sec S i).1, l, hs, ?_, ho.1, ho.2 l hl, ?_⟩
  · rw [sec_crashJ c S j (by omega) i h1, if_neg (by omega), ← hs]
  · show (crashJ c S j).set ((dl S).getD j 0) _ = _
    rw [← hi]
    congr 1
    unfold crash1
    rw [hl]
theorem ok_crashJ (c : Cr) (S : List Sec) (hok : ∀ s ∈ S, OkS s) (j : Nat) : ∀ s ∈ crashJ c S j, OkS s := by
  induction j with
  | zero => exact hok
  | succ j ih => exact ok_set ih (ok_crash1 (ok_sec hok _))

def crD (d : Dk) (c : Cr) : Dk := { S := crash c d.S, trip := 0, down := false, life := wrap64 (d.life + 1) }
theorem OwnI.shape {w : World} {base : Nat} {v : Value} {xs : List Int} (h : OwnI w base v xs) : ∃ ao cap, v = .slice ao xs.length cap ∧ ∀ j, j < xs.length → ∃ g, ao = some ⟨g, 0, none⟩ ∧ base ≤ g ∧ w.cell? ⟨g, j, none⟩ = some (.int .i64 (xs.getD j 0)) := by
  rcases h.2 with ⟨rfl, h0⟩ | ⟨g, cap, cur, rfl, hb, hh, h1, h2, h3, h4⟩
  · exact ⟨none, 0, by rw [h0], fun j hj => by omega⟩
  · refine ⟨_, cap, rfl, fun j hj => ⟨g, rfl, hb, ?_⟩⟩
    have e2 : (cur.toList.take (xs.length * 1))[j]? = (xs.map (Value.int .i64))[j]? := by rw [h4]
    rw [List.getElem?_take, if_pos (by omega)] at e2
    simp [World.cell?, hh, List.getD_eq_getElem?_getD, List.getElem?_eq_getElem hj] at e2 ⊢
    exact e2
theorem dlI_get {S : List Sec} {j : Nat} (hj : j < (dl S).length) : (dlI S).getD j 0 = (((dl S).getD j 0 : Nat) : Int) := by
  simp [dlI, List.getD, List.getElem?_eq_getElem hj]
end Go.Proofs.Ytmcikhdfpmkpnaa
