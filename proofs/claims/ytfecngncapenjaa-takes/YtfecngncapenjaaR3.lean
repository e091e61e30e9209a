/- No word begins another one (plain mathematics). -/
import Derived.Test.YtfecngncapenjaaR2
namespace Go.Proofs.Ytfecngncapenjaa
open Go.RowKit Hf

theorem txt_inj {a b : List Nat} (ha : ∀ x ∈ a, x < 2) (hb : ∀ x ∈ b, x < 2) (h : txt a = txt b) : a = b := by
  have hl : a.length = b.length := by rw [← txt_size a, ← txt_size b, h]
  refine List.ext_getElem hl fun i h1 h2 => ?_
  have e := congrArg (fun s => s.data.toList[i]?) h
  simp only [txt_data, List.getElem?_map, List.getElem?_eq_getElem h1, List.getElem?_eq_getElem h2, Option.map_some, Option.some.injEq] at e
  have p := ha a[i] (List.getElem_mem h1)
  have q := hb b[i] (List.getElem_mem h2)
  generalize a[i] = x at *
  generalize b[i] = y at *
  have hx : x = 0 ∨ x = 1 := by omega
  have hy : y = 0 ∨ y = 1 := by omega
  rcases hx with rfl | rfl <;> rcases hy with rfl | rfl
  · rfl
  · exact absurd e (by decide)
  · exact absurd e (by decide)
  · rfl
theorem sm_dvd {f : Nat → Nat} {d : Nat} : ∀ n, (∀ i, i < n → d ∣ f i) → d ∣ sm f n
  | 0, _ => Nat.dvd_zero d
  | n + 1, h => by
    rw [sm]
    exact Nat.dvd_add (sm_dvd n (fun i hi => h i (by omega))) (h n (by omega))
theorem ps_dvd (f : List Int) (l c : Nat) : 2 ^ (60 - l) ∣ ps f l c := by
  unfold ps
  refine sm_dvd 256 fun i _ => ?_
  by_cases hb : bef f l c i = true
  · rw [if_pos hb]
    refine Nat.pow_dvd_pow 2 ?_
    unfold bef at hb
    rw [Bool.or_eq_true, decide_eq_true_eq, decide_eq_true_eq] at hb
    omega
  · rw [if_neg hb]; exact Nat.dvd_zero _
theorem wv_mul (f : List Int) (i : Nat) : wv f i * 2 ^ (60 - ln f i) = ps f (ln f i) i := by
  unfold wv
  exact Nat.div_mul_cancel (ps_dvd f (ln f i) i)
theorem ps_mono {f : List Int} {l c l' c' : Nat} (h : ∀ i, i < 256 → bef f l c i = true → bef f l' c' i = true) : ps f l c ≤ ps f l' c' := by
  unfold ps
  refine sm_le 256 fun i hi => ?_
  by_cases hb : bef f l c i = true
  · rw [if_pos hb, if_pos (h i hi hb)]; exact Nat.le_refl _
  · rw [if_neg hb]; exact Nat.zero_le _
/-- What stands ahead. -/
theorem wv_ahead {f : List Int} {i k : Nat} (hi : i < 256) (hl : 1 ≤ ln f i) (h : ln f i < ln f k ∨ ln f i = ln f k ∧ i < k) : (wv f i + 1) * 2 ^ (60 - ln f i) ≤ wv f k * 2 ^ (60 - ln f k) := by
  rw [Nat.add_mul, Nat.one_mul, wv_mul, wv_mul, ← ps_take hi rfl]
  refine ps_mono fun j _ hb => ?_
  unfold bef at hb ⊢
  rw [Bool.or_eq_true, decide_eq_true_eq, decide_eq_true_eq] at hb ⊢
  omega
theorem wv_fit {f : List Int} (hf : f.length = 256) (hr0 : hr f = true) {i : Nat} (hi : i < 256) (hl : 1 ≤ ln f i) (h60 : ln f i ≤ 60) : wv f i < 2 ^ ln f i := by
  have h1 : ps f (ln f i) (i + 1) ≤ 1152921504606846976 := Nat.le_trans (ps_le hf _ _ hl) (hr_krs hr0)
  rw [ps_take hi rfl, ← wv_mul] at h1
  have e : (2 : Nat) ^ 60 = 2 ^ ln f i * 2 ^ (60 - ln f i) := by rw [← Nat.pow_add, show ln f i + (60 - ln f i) = 60 by omega]
  have h2 : (wv f i + 1) * 2 ^ (60 - ln f i) ≤ 2 ^ ln f i * 2 ^ (60 - ln f i) := by rw [Nat.add_mul, Nat.one_mul, ← e]; exact h1
  have := Nat.le_of_mul_le_mul_right h2 (Nat.two_pow_pos _)
  omega
theorem ws_at {f : List Int} (hr0 : hr f = true) {i : Nat} (hi : i < 256) : ln f i ≤ 60 ∧ (ws f).getD i ByteArray.empty = if 1 ≤ ln f i then txt (Wd.bits (ln f i) (wv f i)) else txt [] := by
  have hl : ln f i ≤ 60 := by
    unfold hr at hr0
    rw [Bool.and_eq_true] at hr0
    have ha := List.all_eq_true.1 hr0.1
    unfold ln
    by_cases hi : i < f.length
    · have := ha (f.getD i 0) (by unfold List.getD; rw [List.getElem?_eq_getElem hi]; exact List.getElem_mem hi)
      unfold okB at this
      rw [Bool.and_eq_true, decide_eq_true_eq, decide_eq_true_eq] at this
      omega
    · rw [show f.getD i 0 = 0 by unfold List.getD; rw [List.getElem?_eq_none (by omega)]; rfl]
      omega
  refine ⟨hl, ?_⟩
  unfold ws
  rw [wls_get f 61 0 i hi]
  by_cases h1 : 1 ≤ ln f i
  · have : bef f 61 0 i = true := by
      unfold bef
      rw [decide_eq_true (show 1 ≤ ln f i ∧ ln f i < 61 by omega)]; rfl
    rw [this, if_pos rfl, if_pos h1, wb_txt rfl (wv_mul f i)]
  · have : bef f 61 0 i = false := by
      unfold bef
      rw [decide_eq_false (by omega), decide_eq_false (by omega)]; rfl
    rw [this, if_neg (by decide), if_neg h1]; rfl
/-- No word begins another one. -/
theorem no_begin {f : List Int} (hf : f.length = 256) (hr0 : hr f = true) {i k : Nat} (hi : i < 256) (hk : k < 256) (hik : i ≠ k) (h0 : 0 < ((ws f).getD i ByteArray.empty).size) (hle : ((ws f).getD i ByteArray.empty).size ≤ ((ws f).getD k ByteArray.empty).size) :
    ((ws f).getD k ByteArray.empty).extract 0 ((ws f).getD i ByteArray.empty).size ≠ (ws f).getD i ByteArray.empty := by
  intro h
  obtain ⟨i60, ei⟩ := ws_at hr0 hi
  obtain ⟨k60, ek⟩ := ws_at hr0 hk
  by_cases hi1 : 1 ≤ ln f i
  · rw [if_pos hi1] at ei
    rw [ei, txt_size, Wd.bits_len] at hle h
    by_cases hk1 : 1 ≤ ln f k
    · rw [if_pos hk1] at ek
      rw [ek, txt_size, Wd.bits_len] at hle
      rw [ek, txt_take] at h
      have h1 := txt_inj (fun x hx => by have := Wd.bits_bin _ _ x (List.mem_of_mem_take hx); omega) (fun x hx => by have := Wd.bits_bin _ _ x hx; omega) h
      obtain ⟨d, hd⟩ := Nat.exists_eq_add_of_le hle
      have fi := wv_fit hf hr0 hi hi1 i60
      have fk := wv_fit hf hr0 hk hk1 k60
      rw [hd] at h1 fk
      have e := Wd.begins fi fk h1
      by_cases hord : ln f i < ln f k ∨ ln f i = ln f k ∧ i < k
      · have ha := wv_ahead (k := k) hi hi1 hord
        have e2 : (2 : Nat) ^ (60 - ln f i) = 2 ^ d * 2 ^ (60 - ln f k) := by rw [← Nat.pow_add, show d + (60 - ln f k) = 60 - ln f i by omega]
        rw [e2, ← Nat.mul_assoc] at ha
        have h6 := Nat.le_of_mul_le_mul_right ha (Nat.two_pow_pos _)
        have h7 := (Nat.le_div_iff_mul_le (Nat.two_pow_pos d)).2 h6
        omega
      · have hd0 : d = 0 := by omega
        have heq : ln f k = ln f i := by omega
        have ha := wv_ahead (f := f) (i := k) (k := i) hk hk1 (.inr ⟨heq, by omega⟩)
        rw [heq] at ha
        have h6 := Nat.le_of_mul_le_mul_right ha (Nat.two_pow_pos _)
        rw [hd0, Nat.pow_zero, Nat.div_one] at e
        omega
    · rw [if_neg hk1] at ek
      rw [ek, txt_size] at hle
      simp only [List.length_nil] at hle
      omega
  · rw [if_neg hi1] at ei
    rw [ei, txt_size] at h0
    simp only [List.length_nil] at h0
    omega
/-- The words that are told. -/
def wsE (f : List Int) : List ByteArray := if hr f then ws f else e0
theorem wsE_len (f : List Int) : (wsE f).length = 256 := by
  unfold wsE
  cases hr f
  · exact e0_len
  · exact wls_len f 61 0
theorem e0_get (i : Nat) : e0.getD i ByteArray.empty = ByteArray.empty := by
  by_cases hi : i < 256
  · rw [← wls_zero [], wls_get [] 1 0 i hi]
    have : bef [] 1 0 i = false := by
      unfold bef
      rw [decide_eq_false (by omega), decide_eq_false (by omega)]; rfl
    rw [this]; rfl
  · unfold List.getD
    rw [List.getElem?_eq_none (by rw [e0_len]; omega)]; rfl
theorem wsE_no {f : List Int} (hf : f.length = 256) {i k : Nat} (hi : i < 256) (hk : k < 256) (hik : i ≠ k) (h0 : 0 < ((wsE f).getD i ByteArray.empty).size) (hle : ((wsE f).getD i ByteArray.empty).size ≤ ((wsE f).getD k ByteArray.empty).size) :
    ((wsE f).getD k ByteArray.empty).extract 0 ((wsE f).getD i ByteArray.empty).size ≠ (wsE f).getD i ByteArray.empty := by
  cases h : hr f with
  | false =>
    have e : wsE f = e0 := by unfold wsE; rw [h]; rfl
    rw [e, e0_get] at h0
    exact absurd h0 (by decide)
  | true =>
    have e : wsE f = ws f := by unfold wsE; rw [h]; rfl
    rw [e] at h0 hle ⊢
    exact no_begin hf h hi hk hik h0 hle
section
variable {w : World}
theorem words12 (f : List Int) (hf : f.length = 256) : Calls Try.prog 12 #[.agg (ia f)] w fun e w' => e = .returned (.tuple #[.agg (sa (wsE f)), .int .i64 (if hr f then 0 else 2)]) ∧ Below w.heap.size w w' := by
  unfold wsE
  cases h : hr f with
  | false => exact words12_no f hf h
  | true => exact words12_ok f hf h
end
end Go.Proofs.Ytfecngncapenjaa
