/- Trees that are joined, told by their counts, least bytes, and bytes (plain mathematics). -/
import Derived.Test.YtfecngncapenjaaH14
import Derived.Test.YtfecngncapenjaaH15
import Derived.Test.YtfecngncapenjaaHf2
namespace Go.Proofs.Ytfecngncapenjaa

def ltA (a b : AT) : Bool := decide (a.1 < b.1 ∨ a.1 = b.1 ∧ a.2.1 < b.2.1)
theorem shl_pr (x y : Sh) : shl x y = ltA (pr x) (pr y) := rfl
def joinA (x y : AT) : AT := (x.1 + y.1, min x.2.1 y.2.1, x.2.2 ++ y.2.2)
/-- One more for each of some bytes. -/
def bump (g l : List Int) : List Int := l.foldl (fun f c => f.set c.toNat (f.getD c.toNat 0 + 1)) g
theorem bump_len (g l : List Int) : (bump g l).length = g.length := fold_len l g
theorem bump_snoc (g l : List Int) (c : Int) : bump g (l ++ [c]) = (bump g l).set c.toNat ((bump g l).getD c.toNat 0 + 1) := by unfold bump; rw [List.foldl_append]; rfl
theorem bump_get {g l : List Int} (hg : g.length = 256) (hb : By l) (hn : l.Nodup) (i : Nat) : (bump g l).getD i 0 = g.getD i 0 + if (i : Int) ∈ l then 1 else 0 := by
  unfold bump
  rw [fold_get l g hg hb i]
  congr 1
  have e : l.countP (fun c => c.toNat = i) = l.count (i : Int) := by
    unfold List.count
    refine List.countP_congr fun x hx => ?_
    have := hb x hx
    simp only [decide_eq_true_eq, beq_iff_eq]
    omega
  rw [e]
  by_cases h : (i : Int) ∈ l
  · rw [if_pos h, hn.count, if_pos h]; rfl
  · rw [if_neg h, List.count_eq_zero_of_not_mem h]; rfl
/-- The two least become one, again and again; g: how often a byte became part of a tree. -/
inductive RunA (F0 : List AT) : List AT → List Int → Prop
  | init (F : List AT) : F.Perm F0 → RunA F0 F z0
  | step (F G rest : List AT) (x y : AT) (g : List Int) : RunA F0 F g → F.Perm (x :: y :: rest) → (∀ t ∈ y :: rest, ltA t x = false) → (∀ t ∈ rest, ltA t y = false) → G.Perm (joinA x y :: rest) → RunA F0 G (bump g (joinA x y).2.2)
def sC : List AT → Int
  | [] => 0
  | t :: r => t.1 + sC r
def sB : List AT → Nat
  | [] => 0
  | t :: r => t.2.2.length + sB r
theorem sC_perm {F G : List AT} (h : F.Perm G) : sC F = sC G := by
  induction h with
  | nil => rfl
  | cons x _ ih => simp only [sC, ih]
  | swap x y l => simp only [sC]; omega
  | trans _ _ h1 h2 => rw [h1, h2]
theorem sB_perm {F G : List AT} (h : F.Perm G) : sB F = sB G := by
  induction h with
  | nil => rfl
  | cons x _ ih => simp only [sB, ih]
  | swap x y l => simp only [sB]; omega
  | trans _ _ h1 h2 => rw [h1, h2]
def ApA (a b : AT) : Prop := ∀ x ∈ a.2.2, x ∉ b.2.2
theorem ApA.symm {a b : AT} (h : ApA a b) : ApA b a := fun x hx hy => h x hy hx
/-- What is so of one tree. -/
structure OneA (t : AT) : Prop where
  pos : 1 ≤ t.1
  mem : t.2.1 ∈ t.2.2
  by' : By t.2.2
  nodup : t.2.2.Nodup
  low : ∀ x ∈ t.2.2, t.2.1 ≤ x
/-- What is so of the trees all the time. -/
structure FineA (F : List AT) : Prop where
  each : ∀ t ∈ F, OneA t
  apart : F.Pairwise ApA
  sumC : sC F ≤ 2097152
  sumB : sB F ≤ 256
theorem FineA.perm {F G : List AT} (h : FineA F) (p : F.Perm G) : FineA G :=
  ⟨fun t ht => h.each t (p.mem_iff.2 ht), (p.pairwise_iff (fun h => h.symm)).1 h.apart, by rw [← sC_perm p]; exact h.sumC, by rw [← sB_perm p]; exact h.sumB⟩
theorem sC_pos : ∀ {F : List AT}, (∀ t ∈ F, OneA t) → 0 ≤ sC F
  | [], _ => Int.le_refl _
  | t :: r, h => by
    have h1 := (h t (by simp)).pos
    have h2 := sC_pos (F := r) (fun s hs => h s (by simp [hs]))
    rw [sC]; omega
theorem OneA.join {x y : AT} (hx : OneA x) (hy : OneA y) (ha : ApA x y) : OneA (joinA x y) := by
  refine ⟨?_, ?_, ?_, ?_, ?_⟩
  · have := hx.pos; have := hy.pos; simp only [joinA]; omega
  · simp only [joinA, List.mem_append]
    have h1 := hx.mem
    have h2 := hy.mem
    by_cases h : x.2.1 ≤ y.2.1
    · rw [Int.min_eq_left h]; exact .inl h1
    · rw [Int.min_eq_right (by omega)]; exact .inr h2
  · intro c hc
    simp only [joinA, List.mem_append] at hc
    rcases hc with h | h
    · exact hx.by' c h
    · exact hy.by' c h
  · simp only [joinA]
    exact List.nodup_append.2 ⟨hx.nodup, hy.nodup, fun a h1 b h2 e => ha a h1 (by rw [e]; exact h2)⟩
  · intro c hc
    simp only [joinA, List.mem_append] at hc ⊢
    rcases hc with h | h
    · have := hx.low c h; omega
    · have := hy.low c h; omega
theorem FineA.join {x y : AT} {r : List AT} (h : FineA (x :: y :: r)) : FineA (joinA x y :: r) := by
  obtain ⟨h1, h2⟩ := List.pairwise_cons.1 h.apart
  obtain ⟨h3, h4⟩ := List.pairwise_cons.1 h2
  refine ⟨fun t ht => ?_, List.pairwise_cons.2 ⟨fun t ht c hc => ?_, h4⟩, ?_, ?_⟩
  · rcases List.mem_cons.1 ht with rfl | ht
    · exact (h.each x (by simp)).join (h.each y (by simp)) (h1 y (by simp))
    · exact h.each t (by simp [ht])
  · simp only [joinA, List.mem_append] at hc
    rcases hc with hc | hc
    · exact h1 t (by simp [ht]) c hc
    · exact h3 t ht c hc
  · have := h.sumC
    simp only [sC, joinA] at this ⊢
    omega
  · have := h.sumB
    simp only [sB, joinA, List.length_append] at this ⊢
    omega
theorem RunA.fine {F0 F : List AT} {g : List Int} (h0 : FineA F0) (h : RunA F0 F g) : FineA F := by
  induction h with
  | init F p => exact h0.perm p.symm
  | step F G rest x y g _ p _ _ q ih => exact ((ih.perm p).join).perm q.symm
theorem RunA.len {F0 F : List AT} {g : List Int} (h : RunA F0 F g) : g.length = 256 := by
  induction h with
  | init F p => exact z0_len
  | step F G rest x y g _ p _ _ q ih => rw [bump_len, ih]
theorem RunA.few {F0 F : List AT} {g : List Int} (h : RunA F0 F g) : F.length ≤ F0.length := by
  induction h with
  | init F p => rw [p.length_eq]; exact Nat.le_refl _
  | step F G rest x y g _ p _ _ q ih =>
    have h1 := p.length_eq
    have h2 := q.length_eq
    simp only [List.length_cons] at h1 h2
    omega
theorem RunA.perm {F0 F G : List AT} {g : List Int} (h : RunA F0 F g) (p : G.Perm F) : RunA F0 G g := by
  cases h with
  | init _ q => exact .init G (p.trans q)
  | step F' _ rest x y g h1 h2 h3 h4 h5 => exact .step F' G rest x y g h1 h2 h3 h4 (p.trans h5)
theorem least_one {F : List AT} (h : FineA F) {x y : AT} (hx : x ∈ F) (hy : y ∈ F) (h1 : ltA x y = false) (h2 : ltA y x = false) : x = y := by
  by_cases e : x = y
  · exact e
  · exfalso
    have h3 : ApA x y ∨ ApA y x := by
      have := h.apart
      clear h1 h2 h
      induction F with
      | nil => cases hx
      | cons a r ih =>
        obtain ⟨k1, k2⟩ := List.pairwise_cons.1 this
        rcases List.mem_cons.1 hx with e1 | h5
        · rcases List.mem_cons.1 hy with e2 | h6
          · exact absurd (e1.trans e2.symm) e
          · rw [e1]; exact .inl (k1 y h6)
        · rcases List.mem_cons.1 hy with e2 | h6
          · rw [e2]; exact .inr (k1 x h5)
          · exact ih h5 h6 k2
    unfold ltA at h1 h2
    have g1 := of_decide_eq_false h1
    have g2 := of_decide_eq_false h2
    have e2 : x.2.1 = y.2.1 := by omega
    have m1 := (h.each x hx).mem
    have m2 := (h.each y hy).mem
    rcases h3 with h3 | h3
    · exact h3 _ m1 (by rw [e2]; exact m2)
    · exact h3 _ m2 (by rw [← e2]; exact m1)
theorem ltA_irr (x : AT) : ltA x x = false := by unfold ltA; exact decide_eq_false (by omega)
/-- There is but one way. -/
theorem RunA.det {F0 : List AT} (h0 : FineA F0) {F : List AT} {g : List Int} (h : RunA F0 F g) : ∀ {G : List AT} {k : List Int}, RunA F0 G k → F.length = G.length → F.Perm G ∧ g = k := by
  induction h with
  | init F p =>
    intro G k hG hl
    cases hG with
    | init _ q => exact ⟨p.trans q.symm, rfl⟩
    | step F' _ rest x y g h1 h2 h3 h4 h5 =>
      exfalso
      have a := h1.few
      have b := h2.length_eq
      have c := h5.length_eq
      have d := p.length_eq
      simp only [List.length_cons] at b c
      omega
  | step F1 F2 rest x y g h1 p hx hy q ih =>
    intro G k hG hl
    cases hG with
    | init _ r =>
      exfalso
      have a := h1.few
      have b := p.length_eq
      have c := q.length_eq
      have d := r.length_eq
      simp only [List.length_cons] at b c
      omega
    | step F' _ rest' x' y' g' h1' p' hx' hy' q' =>
      have hlen : F1.length = F'.length := by
        have a := p.length_eq
        have b := q.length_eq
        have c := p'.length_eq
        have d := q'.length_eq
        simp only [List.length_cons] at a b c d
        omega
      obtain ⟨hp, rfl⟩ := ih h1' hlen
      have pp : (x :: y :: rest).Perm (x' :: y' :: rest') := p.symm.trans (hp.trans p')
      have hf := (h1.fine h0).perm p
      have ex : x = x' := by
        have m : x' ∈ x :: y :: rest := pp.mem_iff.2 (by simp)
        have m' : x ∈ x' :: y' :: rest' := pp.mem_iff.1 (by simp)
        refine least_one hf (by simp) m ?_ ?_
        · rcases List.mem_cons.1 m' with e | m'
          · rw [e]; exact ltA_irr _
          · exact hx' x m'
        · rcases List.mem_cons.1 m with e | m
          · rw [e]; exact ltA_irr _
          · exact hx x' m
      subst ex
      have pp2 := pp.cons_inv
      have ey : y = y' := by
        have m : y' ∈ y :: rest := pp2.mem_iff.2 (by simp)
        have m' : y ∈ y' :: rest' := pp2.mem_iff.1 (by simp)
        refine least_one hf (by simp) (List.mem_cons_of_mem _ m) ?_ ?_
        · rcases List.mem_cons.1 m' with e | m'
          · rw [e]; exact ltA_irr _
          · exact hy' y m'
        · rcases List.mem_cons.1 m with e | m
          · rw [e]; exact ltA_irr _
          · exact hy y' m
      subst ey
      exact ⟨q.trans ((pp2.cons_inv.cons _).trans q'.symm), rfl⟩
/-- The trees at the beginning are fine. -/
theorem T0_spec (f : List Int) : ∀ k, ∀ t ∈ T0 f k, ∃ c : Nat, c < k ∧ 0 < f.getD c 0 ∧ t = (f.getD c 0, (c : Int), [(c : Int)])
  | 0, t, h => by simp [T0] at h
  | k + 1, t, h => by
    rw [T0] at h
    rcases List.mem_append.1 h with h | h
    · obtain ⟨c, h1, h2, h3⟩ := T0_spec f k t h
      exact ⟨c, by omega, h2, h3⟩
    · by_cases h0 : 0 < f.getD k 0
      · rw [if_pos h0] at h
        exact ⟨k, by omega, h0, by simpa using h⟩
      · rw [if_neg h0] at h; cases h
theorem sC_app : ∀ F G : List AT, sC (F ++ G) = sC F + sC G
  | [], G => by simp [sC]
  | t :: F, G => by rw [List.cons_append, sC, sC, sC_app F G]; omega
theorem sB_app : ∀ F G : List AT, sB (F ++ G) = sB F + sB G
  | [], G => by simp [sB]
  | t :: F, G => by rw [List.cons_append, sB, sB, sB_app F G]; omega
theorem T0_sums {f : List Int} (hf : f.length = 256) (hb : f.any bad = false) : ∀ k, k ≤ 256 → sC (T0 f k) ≤ 8192 * (k : Int) ∧ sB (T0 f k) ≤ k ∧ (T0 f k).Pairwise ApA
  | 0, _ => ⟨by simp [T0, sC], by simp [T0, sB], by simp [T0]⟩
  | k + 1, hk => by
    obtain ⟨h1, h2, h3⟩ := T0_sums hf hb k (by omega)
    rw [T0]
    by_cases h0 : 0 < f.getD k 0
    · rw [if_pos h0]
      have hk8 : f.getD k 0 ≤ 8192 := by
        have hn : bad (f.getD k 0) = false := by
          cases h : bad (f.getD k 0) with
          | false => rfl
          | true => exact absurd h (List.any_eq_false.1 hb (f.getD k 0) (by simp only [List.getD, List.getElem?_eq_getElem (show k < f.length by omega), Option.getD_some]; exact List.getElem_mem _))
        unfold bad at hn
        have := of_decide_eq_false hn
        omega
      refine ⟨?_, ?_, List.pairwise_append.2 ⟨h3, by simp, fun a ha b hb c hc => ?_⟩⟩
      · rw [sC_app]; simp only [sC]; omega
      · rw [sB_app]; simp only [sB, List.length_cons, List.length_nil]; omega
      · simp at hb
        subst hb
        obtain ⟨i, hi, _, rfl⟩ := T0_spec f k a ha
        simp at hc ⊢
        omega
    · rw [if_neg h0, List.append_nil]
      exact ⟨by omega, by omega, h3⟩
theorem T0_fine {f : List Int} (hf : f.length = 256) (hb : f.any bad = false) : FineA (T0 f 256) := by
  obtain ⟨h1, h2, h3⟩ := T0_sums hf hb 256 (Nat.le_refl _)
  refine ⟨fun t ht => ?_, h3, by omega, h2⟩
  obtain ⟨c, hc, h0, rfl⟩ := T0_spec f 256 t ht
  exact ⟨by simp only; omega, by simp, fun x hx => by simp at hx; omega, by simp, fun x hx => by simp at hx; subst hx; exact Int.le_refl _⟩
/-- The lengths of codes. -/
def LenS (f g : List Int) : Prop := ((T0 f 256).length = 1 ∧ ∃ t, T0 f 256 = [t] ∧ g = z0.set t.2.1.toNat 1) ∨ ((T0 f 256).length ≠ 1 ∧ ∃ F, RunA (T0 f 256) F g ∧ F.length ≤ 1)
theorem RunA.some {F0 F : List AT} {g : List Int} (h : RunA F0 F g) : F0 ≠ [] → F ≠ [] := by
  intro hn e
  subst e
  cases h with
  | init _ p => exact hn (by simpa using p.symm.eq_nil)
  | step F' _ rest x y g h1 h2 h3 h4 h5 =>
    have := h5.length_eq
    simp at this
theorem LenS.det {f g k : List Int} (h0 : FineA (T0 f 256)) (h : LenS f g) (h' : LenS f k) : g = k := by
  rcases h with ⟨h1, t, ht, rfl⟩ | ⟨h1, F, hF, hl⟩
  · rcases h' with ⟨_, t', ht', rfl⟩ | ⟨h2, _⟩
    · rw [ht] at ht'
      simp at ht'
      rw [ht']
    · exact absurd h1 h2
  · rcases h' with ⟨h2, _⟩ | ⟨_, G, hG, hm⟩
    · exact absurd h2 h1
    · refine (hF.det h0 hG ?_).2
      by_cases hn : T0 f 256 = []
      · have a := hF.few
        have b := hG.few
        rw [hn] at a b
        simp only [List.length_nil] at a b
        omega
      · have a := List.length_pos_iff.2 (hF.some hn)
        have b := List.length_pos_iff.2 (hG.some hn)
        omega
theorem LenS.len {f g : List Int} (h : LenS f g) : g.length = 256 := by
  rcases h with ⟨_, t, _, rfl⟩ | ⟨_, F, hF, _⟩
  · rw [List.length_set, z0_len]
  · exact hF.len
end Go.Proofs.Ytfecngncapenjaa
