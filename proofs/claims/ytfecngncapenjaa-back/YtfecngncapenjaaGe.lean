/- Texts joined into one: B9, BA. -/
import Derived.Test.YtfecngncapenjaaGd
import Derived.Test.YtfecngncapenjaaP4
import Derived.Test.YtfecngncapenjaaL3
/- Take of Put (plain mathematics): the bits behind the table, and the table. -/
namespace Go.Proofs.Ytfecngncapenjaa
open Oct

theorem Oct.numB_take (r : List Int) (n : Nat) : ∀ (j m : Nat), j ≤ 7 → n * 128 ^ j ≤ 9007199254740991 → (0 < j → 0 < n) →
    tkGo j m (numB n ++ r) = (((m + n * 128 ^ j : Nat) : Int), (j : Int) + (numB n).length, 0) := by
  induction n using numB.induct with
  | case1 n h =>
    intro j m hj hn hp
    rw [numB_small n h, List.singleton_append, tkGo_last _ _ _ _ ?_ (by omega) (by omega)]
    · simp
    · rintro ⟨rfl, h15⟩
      omega
  | case2 n h ih =>
    intro j m hj hn hp
    have h7 : j < 7 := by
      rcases Nat.lt_or_ge j 7 with q | q
      · exact q
      · have : j = 7 := by omega
        subst this
        omega
    have e1 : n / 128 * 128 ^ (j + 1) ≤ n * 128 ^ j := by
      rw [Nat.pow_succ, Nat.mul_comm (128 ^ j), ← Nat.mul_assoc]
      exact Nat.mul_le_mul_right _ (by omega)
    rw [numB_big n h, List.cons_append, tkGo_more _ _ _ _ h7 (by omega), ih (j + 1) _ (by omega) (by omega) (by omega)]
    have e2 : (((n % 128 + 128 : Nat) : Int) % 128).toNat = n % 128 := by omega
    have e3 : n % 128 * 128 ^ j + n / 128 * 128 ^ (j + 1) = n * 128 ^ j := by
      rw [Nat.pow_succ, Nat.mul_comm (128 ^ j) 128, ← Nat.mul_assoc, ← Nat.add_mul]
      congr 1
      omega
    rw [e2, Nat.add_assoc, e3]
    simp only [List.length_cons, Prod.mk.injEq, true_and, and_true]
    omega
theorem Oct.tkNum_numB (ar r : List Int) (n : Nat) (h : n ≤ 9007199254740991) : tkNum (ar ++ numB n ++ r) ar.length = ((n : Int), (ar.length : Int) + (numB n).length, 0) := by
  rw [tkNum_in _ _ (by simp), List.append_assoc, List.drop_left, numB_take r n 0 0 (by omega) (by omega) (by omega)]
  simp [fin]

/-- Bytes and a number hold these bits. -/
structure DB (q : List Int) (x k : Nat) (bs : List Nat) : Prop where
  len : bs.length = 8 * q.length + k
  few : k ≤ 7
  low : x < 2 ^ k
  done : ∀ j, j < 8 * q.length → bitAt q j = bs.getD j 0
  rest : ∀ i, i < k → x / 2 ^ (k - 1 - i) % 2 = bs.getD (8 * q.length + i) 0
theorem bitAt_app (q : List Int) (y : Int) (j : Nat) (h : j < 8 * q.length) : bitAt (q ++ [y]) j = bitAt q j := by
  unfold bitAt
  rw [getD_app, if_pos (by omega)]
theorem bitAt_last (q : List Int) (y : Nat) {i : Nat} (h : i < 8) : bitAt (q ++ [(y : Int)]) (8 * q.length + i) = y / 2 ^ (7 - i) % 2 := by
  unfold bitAt
  rw [show (8 * q.length + i) / 8 = q.length by omega, show (8 * q.length + i) % 8 = i by omega, getD_app, if_neg (by omega), if_pos rfl, Int.toNat_natCast]
theorem two_div (x b m : Nat) (hb : b < 2) : (2 * x + b) / 2 ^ (m + 1) = x / 2 ^ m := by
  rw [Nat.pow_succ', ← Nat.div_div_eq_div_mul]
  congr 1
  omega
theorem getD_snoc (bs : List Nat) (b j : Nat) : (bs ++ [b]).getD j 0 = if j < bs.length then bs.getD j 0 else if j = bs.length then b else 0 := getD_app 0 bs b j
theorem DB.one {q : List Int} {x k : Nat} {bs : List Nat} (h : DB q x k bs) {b : Nat} (hb : b < 2) : if k + 1 = 8 then DB (q ++ [((2 * x + b : Nat) : Int)]) 0 0 (bs ++ [b]) else DB q (2 * x + b) (k + 1) (bs ++ [b]) := by
  have hl := h.len
  have hk := h.few
  have hx := h.low
  by_cases e : k + 1 = 8
  · rw [if_pos e]
    obtain rfl : k = 7 := by omega
    refine ⟨by simp [hl]; omega, by omega, by simp, fun j hj => ?_, fun i hi => by omega⟩
    simp only [List.length_append, List.length_cons, List.length_nil] at hj
    rw [getD_snoc]
    by_cases hjq : j < 8 * q.length
    · rw [bitAt_app _ _ _ hjq, if_pos (by omega)]; exact h.done j hjq
    · obtain ⟨i, rfl⟩ := Nat.exists_eq_add_of_le (Nat.le_of_not_lt hjq)
      rw [bitAt_last _ _ (by omega)]
      by_cases hi : i < 7
      · rw [if_pos (by omega), show 7 - i = (6 - i) + 1 by omega, two_div _ _ _ hb]
        exact h.rest i hi
      · obtain rfl : i = 7 := by omega
        rw [if_neg (by omega), if_pos (by omega)]
        omega
  · rw [if_neg e]
    refine ⟨by simp [hl]; omega, by omega, by rw [Nat.pow_succ]; omega, fun j hj => ?_, fun i hi => ?_⟩
    · rw [getD_snoc, if_pos (by omega)]; exact h.done j hj
    · rw [getD_snoc]
      by_cases hik : i < k
      · rw [if_pos (by omega), show k + 1 - 1 - i = (k - 1 - i) + 1 by omega, two_div _ _ _ hb]
        exact h.rest i hik
      · obtain rfl : i = k := by omega
        rw [if_neg (by omega), if_pos (by omega), show i + 1 - 1 - i = 0 by omega, Nat.pow_zero, Nat.div_one]
        omega
theorem DB.all (h0 : List Int) : ∀ (bs : List Nat), (∀ b ∈ bs, b < 2) → ∃ q x k, dst (h0, 0, 0) bs = (h0 ++ q, x, k) ∧ DB q x k bs := by
  intro bs
  generalize hn : bs.length = n
  induction n generalizing bs with
  | zero =>
    intro _
    obtain rfl := List.length_eq_zero_iff.1 hn
    exact ⟨[], 0, 0, by simp [dst], ⟨rfl, by omega, by simp, fun j hj => by simp at hj, fun i hi => by omega⟩⟩
  | succ n ih =>
    intro hb
    have hne : bs ≠ [] := fun e => by rw [e] at hn; simp at hn
    obtain ⟨r, b, rfl⟩ : ∃ r b, bs = r ++ [b] := ⟨bs.dropLast, bs.getLast hne, (List.dropLast_concat_getLast hne).symm⟩
    obtain ⟨q, x, k, h1, h2⟩ := ih r (by simpa using hn) (fun c hc => hb c (by simp [hc]))
    have h3 := h2.one (hb b (by simp))
    rw [dst_snoc, h1]
    unfold dst1
    simp only
    by_cases e : k + 1 = 8
    · rw [if_pos e] at h3 ⊢
      exact ⟨q ++ [((2 * x + b : Nat) : Int)], 0, 0, by rw [List.append_assoc], h3⟩
    · rw [if_neg e] at h3 ⊢
      exact ⟨q, 2 * x + b, k + 1, rfl, h3⟩
/-- A tail of bytes holds these bits, and zeros up to the end of the byte. -/
structure Tl (t : List Int) (bs : List Nat) : Prop where
  len : t.length = (bs.length + 7) / 8
  bits : ∀ j, j < bs.length → bitAt t j = bs.getD j 0
  zero : ∀ j, bs.length ≤ j → j < 8 * t.length → bitAt t j = 0
theorem DB.tail {q : List Int} {x k : Nat} {bs : List Nat} (h : DB q x k bs) : Tl (if k = 0 then q else q ++ [((x * 2 ^ (8 - k) : Nat) : Int)]) bs := by
  have hl := h.len
  have hk := h.few
  by_cases e : k = 0
  · rw [if_pos e]
    subst e
    exact ⟨by omega, fun j hj => h.done j (by omega), fun j h1 h2 => by omega⟩
  · rw [if_neg e]
    refine ⟨by simp; omega, fun j hj => ?_, fun j h1 h2 => ?_⟩
    · by_cases hjq : j < 8 * q.length
      · rw [bitAt_app _ _ _ hjq]; exact h.done j hjq
      · obtain ⟨i, rfl⟩ := Nat.exists_eq_add_of_le (Nat.le_of_not_lt hjq)
        have hik : i < k := by omega
        rw [bitAt_last _ _ (by omega), ← h.rest i hik]
        rw [show 7 - i = (8 - k) + (k - 1 - i) by omega, Nat.pow_add, ← Nat.div_div_eq_div_mul, Nat.mul_div_cancel _ (Nat.two_pow_pos _)]
    · simp only [List.length_append, List.length_cons, List.length_nil] at h2
      obtain ⟨i, rfl⟩ := Nat.exists_eq_add_of_le (show 8 * q.length ≤ j by omega)
      rw [bitAt_last _ _ (by omega)]
      rw [show 8 - k = (7 - i) + ((i - k) + 1) by omega, Nat.pow_add, Nat.mul_comm (2 ^ (7 - i)), ← Nat.mul_assoc, Nat.mul_div_cancel _ (Nat.two_pow_pos _), Nat.pow_succ, ← Nat.mul_assoc, Nat.mul_mod_left]
/-- What Put tells: the table, and a tail that holds the words' bits. -/
theorem PutS.tail {p out : List Int} (h : PutS p out) : ∃ g t, LenS (cnt p) g ∧ out = hdB g p.length ++ t ∧ Tl t (pbits g p) := by
  obtain ⟨g, hg, rfl⟩ := h
  obtain ⟨q, x, k, h1, h2⟩ := DB.all (hdB g p.length) (pbits g p) (pbits_bin g p)
  have h3 := toW_all (s := (hdB g p.length, 0, 0)) ⟨by simp, by simp⟩ (pbits_bin g p)
  have e : toW (hdB g p.length, 0, 0) = (hdB g p.length, 0) := rfl
  rw [e, h1] at h3
  refine ⟨g, _, hg, ?_, h2.tail⟩
  rw [← h3]
  unfold toW
  simp only
  by_cases e2 : k = 0
  · rw [if_pos e2, if_pos e2]
  · rw [if_neg e2, if_neg e2, List.append_assoc]
end Go.Proofs.Ytfecngncapenjaa

/- Take of Put (plain mathematics). -/
namespace Go.Proofs.Ytfecngncapenjaa
open Oct

theorem hdR_pre (g : List Int) (k : Nat) : ∀ d, ∃ r, hdR g (k + d) = hdR g k ++ r
  | 0 => ⟨[], by rw [List.append_nil]; rfl⟩
  | d + 1 => by
    obtain ⟨r, h⟩ := hdR_pre g k d
    exact ⟨r ++ if 0 < g.getD (k + d) 0 then [((k + d : Nat) : Int), g.getD (k + d) 0] else [], by rw [← Nat.add_assoc, hdR, h, List.append_assoc]⟩
theorem kd_mono (g : List Int) (k : Nat) : ∀ d, kd g k ≤ kd g (k + d)
  | 0 => Nat.le_refl _
  | d + 1 => by rw [← Nat.add_assoc, kd]; have := kd_mono g k d; omega
/-- The lengths of the first bytes. -/
def fl256 (g : List Int) : Nat → List Int
  | 0 => z0
  | k + 1 => if 0 < g.getD k 0 then (fl256 g k).set k (g.getD k 0) else fl256 g k
theorem fl256_len (g : List Int) : ∀ k, (fl256 g k).length = 256
  | 0 => z0_len
  | k + 1 => by
    rw [fl256]
    split
    · rw [List.length_set]; exact fl256_len g k
    · exact fl256_len g k
theorem fl256_get (g : List Int) : ∀ k, k ≤ 256 → ∀ c, (fl256 g k).getD c 0 = if c < k ∧ 0 < g.getD c 0 then g.getD c 0 else 0
  | 0, _, c => by rw [fl256, z0_get, if_neg (by omega)]
  | k + 1, hk, c => by
    have ih := fl256_get g k (by omega) c
    rw [fl256]
    by_cases h : 0 < g.getD k 0
    · rw [if_pos h, set_getD _ _ _ _ (by rw [fl256_len]; omega)]
      by_cases e : c = k
      · subst e; rw [if_pos rfl, if_pos ⟨by omega, h⟩]
      · rw [if_neg e, ih]
        by_cases h2 : c < k ∧ 0 < g.getD c 0
        · rw [if_pos h2, if_pos ⟨by omega, h2.2⟩]
        · rw [if_neg h2, if_neg (fun h3 => h2 ⟨by omega, h3.2⟩)]
    · rw [if_neg h, ih]
      by_cases h2 : c < k ∧ 0 < g.getD c 0
      · rw [if_pos h2, if_pos ⟨by omega, h2.2⟩]
      · rw [if_neg h2, if_neg (fun h3 => h2 ⟨by
          by_cases e : c = k
          · subst e; exact absurd h3.2 h
          · omega, h3.2⟩)]
theorem fl256_all {g : List Int} (hg : g.length = 256) (h0 : ∀ i, 0 ≤ g.getD i 0) : fl256 g 256 = g := ext256 (fl256_len g 256) hg (fun i hi => by
  rw [fl256_get g 256 (Nat.le_refl _)]
  by_cases h : 0 < g.getD i 0
  · rw [if_pos ⟨hi, h⟩]
  · rw [if_neg (fun h2 => h h2.2)]
    have := h0 i
    omega)
theorem rows_back (g pre t : List Int) : ∀ k : Nat, k ≤ 256 → ∃ last : Int, last < k ∧ tkRows (pre ++ hdR g 256 ++ t) (kd g 256) pre.length (-1) z0 = tkRows (pre ++ hdR g 256 ++ t) (kd g 256 - kd g k) (pre.length + 2 * kd g k) last (fl256 g k)
  | 0, _ => ⟨-1, by omega, rfl⟩
  | k + 1, hk => by
    obtain ⟨last, hl, ih⟩ := rows_back g pre t k (by omega)
    rw [ih]
    by_cases h : 0 < g.getD k 0
    · refine ⟨(k : Int), by omega, ?_⟩
      obtain ⟨r, hr⟩ := hdR_pre g (k + 1) (256 - (k + 1))
      have e0 : hdR g (k + 1) = hdR g k ++ [(k : Int), g.getD k 0] := by rw [hdR, if_pos h]
      rw [show k + 1 + (256 - (k + 1)) = 256 by omega, e0] at hr
      have hm := kd_mono g (k + 1) (256 - (k + 1))
      rw [show k + 1 + (256 - (k + 1)) = 256 by omega] at hm
      have ek : kd g (k + 1) = kd g k + 1 := by rw [kd, if_pos h]
      have hd : (pre ++ hdR g 256 ++ t).drop (pre.length + 2 * kd g k) = (k : Int) :: g.getD k 0 :: (r ++ t) := by
        rw [hr]
        have e : pre ++ (hdR g k ++ [(k : Int), g.getD k 0] ++ r) ++ t = (pre ++ hdR g k) ++ ((k : Int) :: g.getD k 0 :: (r ++ t)) := by simp
        rw [e, ← hdR_kd, ← List.length_append, List.drop_left]
      have hrow : tkRow ((k : Int) :: g.getD k 0 :: (r ++ t)) last = ((k : Int), g.getD k 0, 0) := by
        unfold tkRow
        rw [if_neg (by simp), if_neg (by simp only [List.getD_cons_zero]; omega), if_neg (by simp only [List.getD_cons_succ, List.getD_cons_zero]; omega)]
        rfl
      rw [show kd g 256 - kd g k = (kd g 256 - kd g (k + 1)) + 1 by omega, tkRows, hd, hrow]
      simp only [if_true, Int.toNat_natCast]
      rw [fl256, if_pos h, ek, Nat.mul_add]
      rfl
    · have ek : kd g (k + 1) = kd g k := by rw [kd, if_neg h]; rfl
      exact ⟨last, by omega, by rw [ek, fl256, if_neg h]⟩
theorem table_back {p : List Int} (hb : By p) (_hl : p.length ≤ 8192) {g : List Int} (hG : Good (cnt p) g) (hg : g.length = 256) (t : List Int) : tkTable (hdB g p.length ++ t) (numB p.length).length p.length = (g, ((hdB g p.length).length : Int), 0) := by
  have hu : (hdR g 256).length / 2 = kd g 256 := by rw [hdR_kd, Nat.mul_div_cancel_left _ (by decide)]
  have hk := kd_le g 256
  unfold tkTable hdB
  rw [hu]
  have e1 : numB p.length ++ numB (kd g 256) ++ hdR g 256 ++ t = numB p.length ++ numB (kd g 256) ++ (hdR g 256 ++ t) := by simp
  have h1 := tkNum_numB (numB p.length) (hdR g 256 ++ t) (kd g 256) (by omega)
  rw [e1, h1]
  simp only [if_true]
  have hz : kd g 256 = 0 ↔ p.length = 0 := by
    rw [← kd_same (f := cnt p) (g := g) 256 hG.same]
    constructor
    · intro h
      by_cases h0 : p.length = 0
      · exact h0
      · exfalso
        have h2 := cnt_pos hb (k := 0) (by omega)
        have h3 := hb.get 0
        have h4 := kd_mono (cnt p) ((p.getD 0 0).toNat + 1) (256 - ((p.getD 0 0).toNat + 1))
        rw [show (p.getD 0 0).toNat + 1 + (256 - ((p.getD 0 0).toNat + 1)) = 256 by omega, kd, if_pos h2] at h4
        omega
    · intro h
      have : p = [] := List.length_eq_zero_iff.1 h
      subst this
      exact kd_zero 256
  rw [if_neg (by omega)]
  obtain ⟨last, _, h2⟩ := rows_back g (numB p.length ++ numB (kd g 256)) t 256 (Nat.le_refl _)
  have e2 : numB p.length ++ numB (kd g 256) ++ (hdR g 256 ++ t) = numB p.length ++ numB (kd g 256) ++ hdR g 256 ++ t := by simp
  have e3 : (((numB p.length).length : Int) + ((numB (kd g 256)).length : Int)).toNat = (numB p.length ++ numB (kd g 256)).length := by rw [List.length_append]; omega
  rw [e2, e3, Int.toNat_natCast, h2, Nat.sub_self, tkRows, fl256_all hg (fun i => (hG.low i).1)]
  refine Prod.ext rfl (Prod.ext ?_ rfl)
  simp only [List.length_append, hdR_kd]
theorem size_back (g : List Int) {n : Nat} (hn : n ≤ 8192) (t : List Int) (most : Int) : tkSize (hdB g n ++ t) most = if most < n then (0, 0, 6) else ((n : Int), ((numB n).length : Int), 0) := by
  have h1 := tkNum_numB [] (numB ((hdR g 256).length / 2) ++ hdR g 256 ++ t) n (by omega)
  have e : ([] : List Int) ++ numB n ++ (numB ((hdR g 256).length / 2) ++ hdR g 256 ++ t) = hdB g n ++ t := by unfold hdB; simp
  rw [e] at h1
  have h2 : tkNum (hdB g n ++ t) 0 = ((n : Int), ((numB n).length : Int), 0) := by
    rw [show (0 : Int) = (([] : List Int).length : Int) from rfl, h1]
    simp
  unfold tkSize
  rw [h2]
  simp only [if_true]
  by_cases h : most < n
  · rw [if_pos (.inl h), if_pos h]
  · rw [if_neg (by omega), if_neg h]
theorem rw_word {W : Nat → List Nat} {b : List Int} (hd : ∀ i k, i < 256 → k < 256 → i ≠ k → W i ≠ [] → ¬ W i <+: W k) {m : Nat} (hm : m < 256) {a : Nat} (hbits : ∀ j, j < (W m).length → a + j < 8 * b.length ∧ bitAt b (a + j) = (W m).getD j 0) :
    ∀ d j, j + d = (W m).length → 0 < d → Rw W b ((W m).take j) (a + j) (m, a + (W m).length, 0)
  | 0, _, _, h => absurd h (by decide)
  | d + 1, j, hj, _ => by
    obtain ⟨h1, h2⟩ := hbits j (by omega)
    have e : (W m).take j ++ [bitAt b (a + j)] = (W m).take (j + 1) := by
      rw [h2, List.take_add_one, List.getElem?_eq_getElem (show j < (W m).length by omega)]
      simp [List.getD, List.getElem?_eq_getElem (show j < (W m).length by omega)]
    by_cases hd0 : d = 0
    · subst hd0
      have := Rw.hit (W := W) (b := b) ((W m).take j) (a + j) m h1 hm (by rw [e, List.take_of_length_le (by omega)])
      rw [show a + j + 1 = a + (W m).length by omega] at this
      exact this
    · have ih := rw_word hd hm hbits d (j + 1) (by omega) (by omega)
      refine .more _ _ _ h1 ⟨m, hm, by rw [e]; exact List.take_prefix _ _⟩ (fun i hi ei => ?_) (by rw [e]; exact ih)
      rw [e] at ei
      by_cases him : i = m
      · subst him
        have := congrArg List.length ei
        rw [List.length_take] at this
        omega
      · refine hd i m hi hm him ?_ (by rw [ei]; exact List.take_prefix _ _)
        rw [ei]
        intro h
        have := congrArg List.length h
        rw [List.length_take, List.length_nil] at this
        omega
theorem pbits_app (g p q : List Int) : pbits g (p ++ q) = pbits g p ++ pbits g q := by simp [pbits]
theorem words_back {p : List Int} (hb : By p) {g : List Int} (hd : ∀ i k, i < 256 → k < 256 → i ≠ k → wbt g i ≠ [] → ¬ wbt g i <+: wbt g k) (hne : ∀ k, k < p.length → wbt g (p.getD k 0).toNat ≠ []) {t : List Int} (ht : Tl t (pbits g p)) :
    ∀ d k, k + d = p.length → Rs (wbt g) t d (pbits g (p.take k)).length (p.take k) (p, 0)
  | 0, k, hk => by
    rw [List.take_of_length_le (by omega)]
    have h := Rs.done (W := wbt g) (b := t) (pbits g p).length p
    have hD : isD t (pbits g p).length = true := by
      unfold isD
      rw [Bool.and_eq_true, decide_eq_true_eq, decide_eq_true_eq]
      exact ⟨fun i h1 h2 => ht.zero i h2 (by rw [ht.len]; omega), ht.len.symm⟩
    rw [hD, if_pos rfl] at h
    exact h
  | d + 1, k, hk => by
    have hkp : k < p.length := by omega
    have ih := words_back hb hd hne ht d (k + 1) (by omega)
    have hc := hb.get k
    obtain ⟨m, hm⟩ : ∃ m : Nat, p.getD k 0 = (m : Int) := ⟨(p.getD k 0).toNat, by omega⟩
    have hn := hne k hkp
    rw [hm] at hn hc
    rw [Int.toNat_natCast] at hn
    have e1 : p.take (k + 1) = p.take k ++ [(m : Int)] := by
      rw [List.take_add_one, List.getElem?_eq_getElem hkp]
      have : p[k] = (m : Int) := by rw [← hm]; simp [List.getD, List.getElem?_eq_getElem hkp]
      simp [this]
    have e2 : pbits g (p.take (k + 1)) = pbits g (p.take k) ++ wbt g m := by rw [e1, pbits_snoc, Int.toNat_natCast]
    have e3 : pbits g p = pbits g (p.take (k + 1)) ++ pbits g (p.drop (k + 1)) := by rw [← pbits_app, List.take_append_drop]
    have hlen : (pbits g p).length = (pbits g (p.take k)).length + (wbt g m).length + (pbits g (p.drop (k + 1))).length := by rw [e3, e2, List.length_append, List.length_append]
    have hw := rw_word (W := wbt g) (b := t) hd (m := m) (by omega) (a := (pbits g (p.take k)).length) (fun j hj => by
      have h8 : (pbits g p).length ≤ 8 * t.length := by rw [ht.len]; omega
      refine ⟨by omega, ?_⟩
      rw [ht.bits _ (by omega), e3, e2]
      simp only [List.getD_eq_getElem?_getD]
      rw [List.append_assoc, List.getElem?_append_right (by omega), Nat.add_sub_cancel_left, List.getElem?_append_left hj]) (wbt g m).length 0 (by omega) (List.length_pos_iff.2 hn)
    rw [List.take_zero, Nat.add_zero] at hw
    refine .step _ _ _ m _ _ hw ?_
    rw [e2, e1, List.length_append] at ih
    exact ih
/-- Take of Put is the bytes, and not with one less. -/
theorem take_put {p out : List Int} (hb : By p) (hl : p.length ≤ 8192) (h : PutS p out) : TkS out p.length (p, 0) ∧ TkS out ((p.length : Int) - 1) ([], 6) := by
  obtain ⟨g, t, hL, rfl, ht⟩ := h.tail
  have hG := hL.good (T0_fine (cnt_len p) (cnt_bad hb hl))
  have hg := hL.len
  have hd : ∀ i k, i < 256 → k < 256 → i ≠ k → wbt g i ≠ [] → ¬ wbt g i <+: wbt g k := fun i k hi hk hik hne => wbt_apart hg hG.room hi hk hik hne
  constructor
  · have hs : tkSize (hdB g p.length ++ t) p.length = ((p.length : Int), ((numB p.length).length : Int), 0) := by rw [size_back g hl t]; exact if_neg (by omega)
    unfold TkS
    rw [hs]
    simp only [ne_eq, not_true, if_false, Int.toNat_natCast]
    rw [table_back hb hl hG hg t]
    simp only [not_true, if_false, Int.toNat_natCast, List.drop_left]
    rw [hG.room, if_neg (by decide)]
    have := words_back hb hd (fun k hk e => by
      have h1 := cnt_pos hb hk
      have h2 := hb.get k
      have h3 := (hG.same _ (by omega)).1 h1
      have h4 := wbt_len g (p.getD k 0).toNat
      rw [e] at h4
      unfold ln at h4
      simp only [List.length_nil] at h4
      omega) ht p.length 0 (by omega)
    exact this
  · have hs : tkSize (hdB g p.length ++ t) ((p.length : Int) - 1) = (0, 0, 6) := by rw [size_back g hl t]; exact if_pos (by omega)
    unfold TkS
    rw [hs]
    simp
theorem TkS.det {b : List Int} {most : Int} {r r' : List Int × Int} (h : TkS b most r) (h' : TkS b most r') : r = r' := by
  unfold TkS at h h'
  by_cases h1 : (tkSize b most).2.2 ≠ 0
  · rw [if_pos h1] at h h'; rw [h, h']
  · rw [if_neg h1] at h h'
    have hl := tkTable_len b (tkSize b most).2.1.toNat (tkSize b most).1.toNat
    generalize tkTable b (tkSize b most).2.1.toNat (tkSize b most).1.toNat = K at h h' hl
    by_cases h2 : K.2.2 ≠ 0
    · rw [if_pos h2] at h h'; rw [h, h']
    · rw [if_neg h2] at h h'
      cases h3 : hr K.1 with
      | false => rw [h3, if_pos rfl] at h h'; rw [h, h']
      | true =>
        rw [h3, if_neg (by decide)] at h h'
        exact h.det (fun i k hi hk hik hne => wbt_apart hl h3 hi hk hik hne) h'
end Go.Proofs.Ytfecngncapenjaa
