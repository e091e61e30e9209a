/- What Put tells, and what Take tells of it (plain). -/
import Derived.Test.YtoneepoaodoijaaZ2
namespace Go.Proofs.Ytoneepoaodoijaa
open Oct

/-- The pieces of bytes as they stand. -/
def chs (b : List Int) : List Pc := (List.range (cnk b.length)).map (fun j => ⟨chk b j, 0, 0⟩)
theorem lays_chs (b : List Int) : lays (chs b) = rws b (cnk b.length) := by
  unfold lays chs rws
  rw [List.flatMap_map]
theorem take_add' {α : Type} (l : List α) (i j : Nat) : l.take (i + j) = l.take i ++ (l.drop i).take j := by rw [List.take_add]
theorem by_sub {p : List Int} (h : By p) (i j : Nat) : By ((p.drop i).take j) := fun x hx => h x (List.mem_of_mem_drop (List.mem_of_mem_take hx))
/-- What the first pieces tell. -/
theorem chs_tells {p : List Int} (hp : By p) (d m : Nat) (h : d + m ≤ p.length) {most : Int} (hm : ((d + m : Nat) : Int) ≤ most) :
    ∀ k, k ≤ cnk m → Tells most (p.take d) ((List.range k).map (fun j => (⟨chk ((p.drop d).take m) j, 0, 0⟩ : Pc))) (p.take (d + min m (128 * k)))
  | 0, _ => by simp [Tells]
  | k + 1, hk => by
    have ih := chs_tells hp d m h hm k (by omega)
    rw [List.range_succ, List.map_append, List.map_cons, List.map_nil]
    have hlt : 128 * k < m := by unfold cnk at hk; omega
    have hmin : min m (128 * k) = 128 * k := by omega
    rw [hmin] at ih
    have hc : chk ((p.drop d).take m) k = (p.drop (d + 128 * k)).take (min 128 (m - 128 * k)) := by
      unfold chk
      rw [List.drop_take, List.take_take, List.drop_drop]
    have hcl : (chk ((p.drop d).take m) k).length = min 128 (m - 128 * k) := by
      rw [hc, List.length_take, List.length_drop]
      omega
    have hfw : flw ⟨chk ((p.drop d).take m) k, 0, 0⟩ (p.take (d + 128 * k)) = p.take (d + min m (128 * (k + 1))) := by
      unfold flw
      simp only [cpy]
      rw [hc, show d + min m (128 * (k + 1)) = (d + 128 * k) + min 128 (m - 128 * k) by omega, take_add' p (d + 128 * k)]
    refine ih.app ?_
    rw [← hfw]
    refine Tells.one ⟨by rw [hc]; exact by_sub hp _ _, .inl ⟨by simp only; omega, by simp only; omega, rfl, rfl⟩⟩ ?_
    unfold ckP Pc.size
    simp only
    rw [if_neg (by omega), if_neg (by rw [hcl, List.length_take]; omega)]
theorem chs_all {p : List Int} (hp : By p) (d m : Nat) (h : d + m ≤ p.length) {most : Int} (hm : ((d + m : Nat) : Int) ≤ most) : Tells most (p.take d) (chs ((p.drop d).take m)) (p.take (d + m)) := by
  have hl : ((p.drop d).take m).length = m := by rw [List.length_take, List.length_drop]; omega
  have := chs_tells hp d m h hm (cnk m) (Nat.le_refl _)
  rw [show min m (128 * cnk m) = m by unfold cnk; omega] at this
  unfold chs
  rw [hl]
  exact this
theorem cpy_same {p : List Int} {a f : Nat} (hf : 1 ≤ f) (hfa : f ≤ a) : ∀ n, a + n ≤ p.length → (∀ s, s < n → p.getD (a - f + s) 0 = p.getD (a + s) 0) → cpy f n (p.take a) = p.take (a + n)
  | 0, _, _ => rfl
  | n + 1, h, hs => by
    rw [cpy_snoc, cpy_same hf hfa n (by omega) (fun s h => hs s (by omega))]
    have hl : (p.take (a + n)).length = a + n := by rw [List.length_take]; omega
    have hg : (p.take (a + n)).getD ((p.take (a + n)).length - f) 0 = p.getD (a + n) 0 := by
      rw [hl, ← hs n (by omega), show a + n - f = a - f + n by omega]
      simp [List.getD, show a - f + n < a + n by omega]
    rw [hg, ← Nat.add_assoc, take_add' p (a + n) 1]
    congr 1
    have hx : a + n < p.length := by omega
    rw [List.take_one, List.head?_drop]
    simp [List.getD, List.getElem?_eq_getElem hx]
/-- The pieces of bytes, whose matches are these. -/
def pcs (p : List Int) : Nat → List (Nat × Nat × Nat) → List Pc
  | d, [] => chs (p.drop d)
  | d, (a, f, n) :: l => chs ((p.drop d).take (a - d)) ++ [⟨[], f, n⟩] ++ pcs p (a + n) l
theorem pcs_tells {p : List Int} (hp : By p) {most : Int} (hm : (p.length : Int) ≤ most) : ∀ (l : List (Nat × Nat × Nat)) (d : Nat), Row p d l → Tells most (p.take d) (pcs p d l) p
  | [], d, h => by
    simp only [Row] at h
    have := chs_all hp d (p.length - d) (by omega) (most := most) (by omega)
    have e : (p.drop d).take (p.length - d) = p.drop d := List.take_of_length_le (by rw [List.length_drop]; exact Nat.le_refl _)
    rw [show d + (p.length - d) = p.length by omega, List.take_length, e] at this
    exact this
  | (a, f, n) :: l, d, ⟨h1, h2, h3⟩ => by
    have := h2.fit
    have h4 := chs_all hp d (a - d) (by omega) (most := most) (by omega)
    rw [show d + (a - d) = a by omega] at h4
    have hc := cpy_same h2.f1 h2.fa n h2.fit h2.same
    have h5 : Tells most (p.take a) [⟨[], f, n⟩] (p.take (a + n)) := by
      have e : flw ⟨[], f, n⟩ (p.take a) = p.take (a + n) := by unfold flw; simp only [List.append_nil]; exact hc
      rw [← e]
      have hn4 := h2.n4
      have hn1 := h2.n131
      have hf1 := h2.f1
      have hf4 := h2.f4
      have hfa := h2.fa
      refine Tells.one ⟨fun x hx => by simp at hx, .inr ⟨rfl, hf1, by simp only; omega, hn4, hn1⟩⟩ ?_
      unfold ckP Pc.size
      simp only [List.length_nil, List.length_take]
      rw [if_neg (by omega), if_neg (by omega)]
    exact (h4.app h5).app (pcs_tells hp hm l (a + n) h3)
/-- What Put tells. -/
def sqz (p : List Int) : List Int := lays (pcs p 0 (mtl p 0))
theorem sqz_back {p : List Int} (hp : By p) : TkR (sqz p) p.length p 0 := Tells.all (by have := pcs_tells hp (Int.le_refl _) _ _ (mtl_row p); simpa using this) (Int.le_refl _)
theorem sqz_less {p : List Int} (hp : By p) : TkR (sqz p) ((p.length : Int) - 1) [] 6 := Tells.over (by have := pcs_tells hp (Int.le_refl _) _ _ (mtl_row p); simpa using this)
theorem chs_by {b : List Int} (h : By b) : ∀ x ∈ chs b, By x.pl := fun x hx => by
  unfold chs at hx
  obtain ⟨j, _, rfl⟩ := List.mem_map.1 hx
  exact by_sub h _ _
theorem Tells.fine {most : Int} : ∀ {L : List Pc} {q r : List Int}, Tells most q L r → ∀ x ∈ L, FineP x
  | [], _, _, _, x, hx => by simp at hx
  | y :: L, q, r, ⟨h1, h2, h3⟩, x, hx => by
    rcases List.mem_cons.1 hx with rfl | hx
    · exact h1
    · exact h3.fine x hx
theorem sqz_by {p : List Int} (hp : By p) : By (sqz p) := fun y hy => by
  have h := (pcs_tells hp (Int.le_refl _) _ _ (mtl_row p)).fine
  unfold sqz lays at hy
  obtain ⟨x, hx, hy⟩ := List.mem_flatMap.1 hy
  exact lay_by (h x hx) y hy
/-- How many bytes. -/
theorem chs_len (b : List Int) : ∀ k, k ≤ cnk b.length → (rws b k).length = min b.length (128 * k) + k
  | 0, _ => by simp [rws]
  | k + 1, h => by
    have ih := chs_len b k (by omega)
    have hk : 128 * k < b.length := by unfold cnk at h; omega
    rw [rws_snoc, List.length_append, ih, lay_chk (m := min 128 (b.length - 128 * k)) rfl (by omega)]
    simp only [List.length_append, List.length_cons, List.length_nil, List.length_take, List.length_drop]
    omega
theorem lays_chs_len (b : List Int) : (lays (chs b)).length = b.length + cnk b.length := by
  rw [lays_chs, chs_len b _ (Nat.le_refl _)]
  unfold cnk
  omega
theorem numB_short {f : Nat} (h : f ≤ 4096) : (numB f).length ≤ 2 := numB_length 1 f (by omega)
theorem lay_cp (f n : Nat) : lay ⟨[], f, n⟩ = ((124 + n : Nat) : Int) :: numB f := by unfold lay; rw [if_neg (by simp)]
theorem pcs_len {p : List Int} : ∀ (l : List (Nat × Nat × Nat)) (d : Nat), Row p d l → (lays (pcs p d l)).length ≤ (p.length - d) + (p.length - d) / 128 + 1
  | [], d, h => by
    simp only [pcs]
    rw [lays_chs_len, List.length_drop]
    unfold cnk
    omega
  | (a, f, n) :: l, d, ⟨h1, h2, h3⟩ => by
    have ih := pcs_len l (a + n) h3
    have hn4 := h2.n4
    have hf := numB_short h2.f4
    have hft := h2.fit
    have hl : ((p.drop d).take (a - d)).length = a - d := by rw [List.length_take, List.length_drop]; omega
    simp only [pcs]
    rw [lays_app, lays_app, List.length_append, List.length_append, lays_chs_len, hl]
    have h1' : (lays [(⟨[], f, n⟩ : Pc)]).length = 1 + (numB f).length := by simp [lays, lay_cp]; omega
    rw [h1']
    unfold cnk
    omega
theorem sqz_len (p : List Int) : (sqz p).length ≤ p.length + p.length / 128 + 1 := by unfold sqz; have := pcs_len _ _ (mtl_row p); simpa using this
/-- Bytes that are all the same. -/
theorem alk_rep (c : Int) (n j i : Nat) : ∀ m t, i + t + m ≤ n → j ≤ i → alk (List.replicate n c) j i m t = m
  | 0, _, _, _ => rfl
  | m + 1, t, h, k => by
    rw [alk, if_pos, alk_rep c n j i m (t + 1) (by omega) k]
    simp [List.getD, show j + t < n by omega, show i + t < n by omega]
theorem bst_rep (c : Int) (n i : Nat) (hi : i + 4 ≤ n) : ∀ d, bst (List.replicate n c) i (d + 1) = (mst (List.replicate n c) i, 1)
  | 0 => by
    have hm : mst (List.replicate n c) i = min 131 (n - i) := by unfold mst; rw [List.length_replicate]
    rw [bst, alk_rep c n _ i _ 0 (by rw [hm]; omega) (by omega), if_pos]
    simp only [bst]
    omega
  | d + 1 => by
    have hm : mst (List.replicate n c) i = min 131 (n - i) := by unfold mst; rw [List.length_replicate]
    rw [bst, alk_rep c n _ i _ 0 (by rw [hm]; omega) (by omega), bst_rep c n i hi d, if_neg]
    simp only
    omega
theorem mt_rep (c : Int) (n i : Nat) (hi : i + 4 ≤ n) (h1 : 1 ≤ i) : mt (List.replicate n c) i = (min 131 (n - i), 1) := by
  unfold mt
  obtain ⟨d, hd⟩ : ∃ d, min i 4096 = d + 1 := ⟨min i 4096 - 1, by omega⟩
  rw [hd, bst_rep c n i hi d]
  unfold mst
  rw [List.length_replicate]
theorem rep_len (c : Int) (n : Nat) : ∀ k i, n - i ≤ k → 1 ≤ i → i ≤ n → (lays (pcs (List.replicate n c) i (mtl (List.replicate n c) i))).length ≤ 4 + 2 * ((n - i) / 131)
  | k, i, hk, h1, hn => by
    by_cases h4 : n < i + 4
    · rw [mtl_end (by simpa using h4)]
      simp only [pcs]
      rw [lays_chs_len, List.length_drop, List.length_replicate]
      unfold cnk
      omega
    · match k with
      | 0 => omega
      | k + 1 =>
        have hm := mt_rep c n i (by omega) h1
        rw [mtl_some (by rw [hm]; simp only; omega), hm]
        have ih := rep_len c n k (i + min 131 (n - i)) (by omega) (by omega) (by omega)
        simp only [pcs, Nat.sub_self, List.take_zero]
        have e0 : lays (chs ([] : List Int)) = [] := by simp [lays_chs, rws, cnk]
        have e1 : (lays [(⟨[], 1, min 131 (n - i)⟩ : Pc)]).length = 2 := by
          simp only [lays, List.flatMap_cons, List.flatMap_nil, List.append_nil, lay_cp, numB_small 1 (by decide)]
          rfl
        rw [lays_app, lays_app, e0, List.length_append, List.length_append, e1]
        simp only [List.length_nil]
        by_cases h131 : n - i < 131
        · rw [mtl_end (by rw [List.length_replicate]; omega)]
          simp only [pcs]
          rw [lays_chs_len, List.length_drop, List.length_replicate]
          unfold cnk
          omega
        · omega
theorem sqz_rep (c : Int) (n : Nat) : (sqz (List.replicate n c)).length ≤ 10 + 2 * (n / 131) := by
  unfold sqz
  have h0 : mt (List.replicate n c) 0 = (0, 0) := rfl
  rw [mtl_none (by rw [h0])]
  by_cases h5 : n < 5
  · rw [mtl_end (by simp; omega)]
    simp only [pcs, List.drop_zero]
    rw [lays_chs_len, List.length_replicate]
    unfold cnk
    omega
  · have hm := mt_rep c n 1 (by omega) (Nat.le_refl _)
    have h := rep_len c n n 1 (by omega) (Nat.le_refl _) (by omega)
    rw [mtl_some (by rw [hm]; simp only; omega), hm] at h ⊢
    simp only [pcs, Nat.sub_self, List.take_zero, Nat.sub_zero, List.drop_zero, Nat.zero_add] at h ⊢
    have e0 : lays (chs ([] : List Int)) = [] := by simp [lays_chs, rws, cnk]
    rw [lays_app, lays_app, List.length_append, List.length_append] at h ⊢
    rw [e0] at h
    simp only [List.length_nil] at h
    have e2 : (lays (chs ((List.replicate n c).take 1))).length = 2 := by
      rw [lays_chs_len, List.length_take, List.length_replicate, show min 1 n = 1 by omega]
      rfl
    rw [e2]
    omega
end Go.Proofs.Ytoneepoaodoijaa
