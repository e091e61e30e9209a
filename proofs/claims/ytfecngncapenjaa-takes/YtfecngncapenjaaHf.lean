/- No code costs less than the one that joins the two least again and again (plain mathematics). -/
namespace Go.Proofs.Ytfecngncapenjaa.Hf

abbrev P2 := Nat × Nat
/-- The sum of 2^(M - l). -/
def kr (M : Nat) : List P2 → Nat
  | [] => 0
  | p :: r => 2 ^ (M - p.2) + kr M r
def cost : List P2 → Nat
  | [] => 0
  | p :: r => p.1 * p.2 + cost r
def tall : List P2 → Nat
  | [] => 0
  | p :: r => p.2 + tall r
theorem kr_perm (M : Nat) {p q : List P2} (h : p.Perm q) : kr M p = kr M q := by
  induction h with
  | nil => rfl
  | cons x _ ih => simp only [kr, ih]
  | swap x y l => simp only [kr]; omega
  | trans _ _ h1 h2 => rw [h1, h2]
theorem cost_perm {p q : List P2} (h : p.Perm q) : cost p = cost q := by
  induction h with
  | nil => rfl
  | cons x _ ih => simp only [cost, ih]
  | swap x y l => simp only [cost]; omega
  | trans _ _ h1 h2 => rw [h1, h2]
theorem tall_perm {p q : List P2} (h : p.Perm q) : tall p = tall q := by
  induction h with
  | nil => rfl
  | cons x _ ih => simp only [tall, ih]
  | swap x y l => simp only [tall]; omega
  | trans _ _ h1 h2 => rw [h1, h2]
theorem kr_up {M : Nat} : ∀ {p : List P2}, (∀ x ∈ p, x.2 ≤ M) → kr (M + 1) p = 2 * kr M p
  | [], _ => rfl
  | x :: r, h => by
    have hx := h x (by simp)
    rw [kr, kr, kr_up (fun y hy => h y (by simp [hy])), show M + 1 - x.2 = (M - x.2) + 1 by omega, Nat.pow_succ]
    omega
/-- There are words of these lengths. -/
def Ok (p : List P2) : Prop := ∃ M, (∀ x ∈ p, x.2 ≤ M) ∧ kr M p ≤ 2 ^ M
theorem ok_down {M : Nat} {p : List P2} (hb : ∀ x ∈ p, x.2 ≤ M) (h : kr (M + 1) p ≤ 2 ^ (M + 1)) : kr M p ≤ 2 ^ M := by
  rw [kr_up hb, Nat.pow_succ] at h
  omega
theorem ok_at {p : List P2} (h : Ok p) {m : Nat} (hb : ∀ x ∈ p, x.2 ≤ m) : kr m p ≤ 2 ^ m := by
  obtain ⟨M, hM, hk⟩ := h
  by_cases hm : m ≤ M
  · obtain ⟨d, rfl⟩ := Nat.exists_eq_add_of_le hm
    clear hm hM
    induction d with
    | zero => exact hk
    | succ d ih => exact ih (ok_down (fun x hx => by have := hb x hx; omega) hk)
  · have hm' : M ≤ m := by omega
    obtain ⟨d, rfl⟩ := Nat.exists_eq_add_of_le hm'
    clear hm hm' hb
    induction d with
    | zero => exact hk
    | succ d ih =>
      have : kr (M + d + 1) p = 2 * kr (M + d) p := kr_up (fun x hx => by have := hM x hx; omega)
      rw [← Nat.add_assoc, this, Nat.pow_succ]
      omega
theorem Ok.perm {p q : List P2} (h : Ok p) (hp : p.Perm q) : Ok q := by
  obtain ⟨M, hM, hk⟩ := h
  exact ⟨M, fun x hx => hM x (hp.mem_iff.2 hx), by rw [← kr_perm M hp]; exact hk⟩
/-- The longest length. -/
theorem longest : ∀ (p : List P2), p ≠ [] → ∃ x ∈ p, ∀ y ∈ p, y.2 ≤ x.2
  | [], h => absurd rfl h
  | [x], _ => ⟨x, by simp, fun y hy => by simp at hy; rw [hy]; exact Nat.le_refl _⟩
  | x :: y :: r, _ => by
    obtain ⟨z, hz, hm⟩ := longest (y :: r) (by simp)
    by_cases h : z.2 ≤ x.2
    · refine ⟨x, by simp, fun u hu => ?_⟩
      rcases List.mem_cons.1 hu with rfl | hu
      · exact Nat.le_refl _
      · have := hm u hu; omega
    · refine ⟨z, List.mem_cons_of_mem _ hz, fun u hu => ?_⟩
      rcases List.mem_cons.1 hu with rfl | hu
      · omega
      · exact hm u hu
theorem perm_of_mem {α : Type} {x : α} {l : List α} (h : x ∈ l) : ∃ r, l.Perm (x :: r) := by
  obtain ⟨a, b, rfl⟩ := List.append_of_mem h
  exact ⟨a ++ b, List.perm_middle⟩
/-- One alone is longest: it may be shorter. -/
theorem alone {w m : Nat} {r : List P2} (hr : r ≠ []) (h : Ok ((w, m) :: r)) (hb : ∀ x ∈ r, x.2 < m) : 1 ≤ m ∧ Ok ((w, m - 1) :: r) := by
  have hm : 1 ≤ m := by
    cases r with
    | nil => exact absurd rfl hr
    | cons x r => have := hb x (by simp); omega
  refine ⟨hm, m - 1, fun x hx => ?_, ?_⟩
  · rcases List.mem_cons.1 hx with rfl | hx
    · exact Nat.le_refl _
    · have := hb x hx; omega
  · obtain ⟨m, rfl⟩ := Nat.exists_eq_add_of_le hm
    have hk := ok_at h (m := 1 + m) (fun x hx => by
      rcases List.mem_cons.1 hx with rfl | hx
      · exact Nat.le_refl _
      · have := hb x hx; omega)
    rw [Nat.add_comm 1 m] at hk ⊢
    simp only [kr, Nat.sub_self, Nat.pow_zero, Nat.add_sub_cancel] at hk ⊢
    rw [kr_up (fun x hx => by have := hb x hx; omega), Nat.pow_succ] at hk
    omega
/-- A length is handed to a lighter one. -/
theorem swap_len {x u a c : Nat} {r : List P2} (hxu : x ≤ u) (hac : a ≤ c) (h : Ok ((x, a) :: (u, c) :: r)) : Ok ((x, c) :: (u, a) :: r) ∧ cost ((x, c) :: (u, a) :: r) ≤ cost ((x, a) :: (u, c) :: r) := by
  obtain ⟨M, hM, hk⟩ := h
  refine ⟨⟨M, fun z hz => ?_, ?_⟩, ?_⟩
  · simp only [List.mem_cons] at hz
    rcases hz with rfl | rfl | hz
    · exact hM (u, c) (by simp)
    · exact hM (x, a) (by simp)
    · exact hM z (by simp [hz])
  · simp only [kr] at hk ⊢
    omega
  · obtain ⟨d, rfl⟩ := Nat.exists_eq_add_of_le hac
    obtain ⟨f, rfl⟩ := Nat.exists_eq_add_of_le hxu
    simp only [cost, Nat.mul_add, Nat.add_mul]
    omega
/-- The two that weigh least may be the longest. -/
theorem sisters : ∀ (n : Nat) (p : List P2) (x y : Nat) (ws : List Nat), tall p ≤ n → (p.map (·.1)).Perm (x :: y :: ws) → (∀ w ∈ ws, x ≤ w ∧ y ≤ w) → Ok p →
    ∃ (m : Nat) (q : List P2), (q.map (·.1)).Perm ws ∧ Ok ((x, m) :: (y, m) :: q) ∧ 1 ≤ m ∧ cost ((x, m) :: (y, m) :: q) ≤ cost p := by
  intro n
  induction n using Nat.strongRecOn with
  | ind n ih =>
  intro p x y ws hn hp hle hk
  obtain ⟨a, q1, hq1, e1⟩ : ∃ (a : Nat) (q1 : List P2), p.Perm ((x, a) :: q1) ∧ (q1.map (·.1)).Perm (y :: ws) := by
    have hx : x ∈ p.map (·.1) := hp.mem_iff.2 (by simp)
    obtain ⟨⟨x', a⟩, hm, rfl⟩ := List.mem_map.1 hx
    obtain ⟨r, hr⟩ := perm_of_mem hm
    refine ⟨a, r, hr, ?_⟩
    have := (hr.map (·.1)).symm.trans hp
    simpa using this
  obtain ⟨b, q, hq, e2⟩ : ∃ (b : Nat) (q : List P2), q1.Perm ((y, b) :: q) ∧ (q.map (·.1)).Perm ws := by
    have hx : y ∈ q1.map (·.1) := e1.mem_iff.2 (by simp)
    obtain ⟨⟨y', b⟩, hm, rfl⟩ := List.mem_map.1 hx
    obtain ⟨r, hr⟩ := perm_of_mem hm
    refine ⟨b, r, hr, ?_⟩
    have := (hr.map (·.1)).symm.trans e1
    simpa using this
  have hpp : p.Perm ((x, a) :: (y, b) :: q) := hq1.trans (hq.cons _)
  have hk' := hk.perm hpp
  have ec := cost_perm hpp
  have et := tall_perm hpp
  have hqw : ∀ u ∈ q, x ≤ u.1 ∧ y ≤ u.1 := fun u hu => hle _ (e2.mem_iff.1 (List.mem_map_of_mem hu))
  clear hp hk hq1 hq e1
  -- a shorter one, if one alone is longest
  have again : ∀ (p' : List P2), tall p' < tall p → cost p' ≤ cost p → (p'.map (·.1)).Perm (x :: y :: ws) → Ok p' →
      ∃ (m : Nat) (q : List P2), (q.map (·.1)).Perm ws ∧ Ok ((x, m) :: (y, m) :: q) ∧ 1 ≤ m ∧ cost ((x, m) :: (y, m) :: q) ≤ cost p := by
    intro p' ht hc hp' hk2
    obtain ⟨m, q', h1, h2, h3, h4⟩ := ih (tall p') (by omega) p' x y ws (Nat.le_refl _) hp' hle hk2
    exact ⟨m, q', h1, h2, h3, by omega⟩
  have two : ∀ (m : Nat) (q : List P2), Ok ((x, m) :: (y, m) :: q) → 1 ≤ m := fun m q hm => by
    rcases Nat.eq_zero_or_pos m with rfl | h
    · obtain ⟨M, _, h2⟩ := hm
      simp only [kr, Nat.sub_zero] at h2
      have : 0 < 2 ^ M := Nat.two_pow_pos M
      omega
    · exact h
  obtain ⟨z, hz, hmax⟩ := longest ((x, a) :: (y, b) :: q) (by simp)
  obtain ⟨zw, m⟩ := z
  have ha : a ≤ m := hmax (x, a) (by simp)
  have hb : b ≤ m := hmax (y, b) (by simp)
  have hqm : ∀ u ∈ q, u.2 ≤ m := fun u hu => hmax u (by simp [hu])
  by_cases ham : a = m
  · subst ham
    by_cases hbm : b = a
    · subst hbm
      exact ⟨b, q, e2, hk', two b q hk', by omega⟩
    · by_cases hu : ∃ u ∈ q, u.2 = a
      · obtain ⟨⟨u, c⟩, hu, rfl⟩ := hu
        obtain ⟨r, hr⟩ := perm_of_mem hu
        have h1 : Ok ((y, b) :: (u, c) :: (x, c) :: r) := hk'.perm (((hr.cons (y, b)).cons (x, c)).trans ((List.Perm.swap _ _ _).trans (List.Perm.cons _ (List.Perm.swap _ _ _))))
        obtain ⟨h2, h3⟩ := swap_len (hqw _ hu).2 hb h1
        refine ⟨c, (u, b) :: r, ?_, h2.perm ?_, ?_, ?_⟩
        · have := (hr.map (·.1)).symm.trans e2
          simpa using this
        · exact (List.Perm.cons _ (List.Perm.swap _ _ _)).trans (List.Perm.swap _ _ _)
        · refine two c ((u, b) :: r) (h2.perm ?_)
          exact (List.Perm.cons _ (List.Perm.swap _ _ _)).trans (List.Perm.swap _ _ _)
        · have := cost_perm hr
          simp only [cost] at h3 this ec ⊢
          omega
      · have h1 := alone (r := (y, b) :: q) (by simp) hk' (fun v hv => by
          rcases List.mem_cons.1 hv with rfl | hv
          · simp only; omega
          · have := hqm v hv
            have : v.2 ≠ a := fun e => hu ⟨v, hv, e⟩
            omega)
        refine again ((x, a - 1) :: (y, b) :: q) ?_ ?_ ?_ h1.2
        · rw [et]; simp only [tall]; have := h1.1; omega
        · rw [ec]; simp only [cost]; have := Nat.mul_le_mul_left x (Nat.sub_le a 1); omega
        · simpa using e2
  · by_cases hbm : b = m
    · subst hbm
      by_cases hu : ∃ u ∈ q, u.2 = b
      · obtain ⟨⟨u, c⟩, hu, rfl⟩ := hu
        obtain ⟨r, hr⟩ := perm_of_mem hu
        have h1 : Ok ((x, a) :: (u, c) :: (y, c) :: r) := hk'.perm (((hr.cons (y, c)).cons (x, a)).trans (List.Perm.cons _ (List.Perm.swap _ _ _)))
        obtain ⟨h2, h3⟩ := swap_len (hqw _ hu).1 ha h1
        refine ⟨c, (u, a) :: r, ?_, h2.perm (List.Perm.cons _ (List.Perm.swap _ _ _)), two c ((u, a) :: r) (h2.perm (List.Perm.cons _ (List.Perm.swap _ _ _))), ?_⟩
        · have := (hr.map (·.1)).symm.trans e2
          simpa using this
        · have := cost_perm hr
          simp only [cost] at h3 this ec ⊢
          omega
      · have h1 := alone (r := (x, a) :: q) (by simp) (hk'.perm (List.Perm.swap _ _ _)) (fun v hv => by
          rcases List.mem_cons.1 hv with rfl | hv
          · simp only; omega
          · have := hqm v hv
            have : v.2 ≠ b := fun e => hu ⟨v, hv, e⟩
            omega)
        refine again ((x, a) :: (y, b - 1) :: q) ?_ ?_ ?_ (h1.2.perm (List.Perm.swap _ _ _))
        · rw [et]; simp only [tall]; have := h1.1; omega
        · rw [ec]; simp only [cost]; have := Nat.mul_le_mul_left y (Nat.sub_le b 1); omega
        · simpa using e2
    · have hzq : (zw, m) ∈ q := by
        simp only [List.mem_cons] at hz
        rcases hz with hz | hz | hz
        · exact absurd (congrArg (·.2) hz).symm ham
        · exact absurd (congrArg (·.2) hz).symm hbm
        · exact hz
      obtain ⟨r, hr⟩ := perm_of_mem hzq
      by_cases hu : ∃ u ∈ r, u.2 = m
      · obtain ⟨⟨u, c⟩, hu, rfl⟩ := hu
        obtain ⟨r2, hr2⟩ := perm_of_mem hu
        have hr' : q.Perm ((zw, c) :: (u, c) :: r2) := hr.trans (hr2.cons _)
        have h1 : Ok ((x, a) :: (zw, c) :: (y, b) :: (u, c) :: r2) := hk'.perm (((hr'.cons (y, b)).cons (x, a)).trans (List.Perm.cons _ (List.Perm.swap _ _ _)))
        obtain ⟨h2, h3⟩ := swap_len (hqw _ hzq).1 ha h1
        have h4 : Ok ((y, b) :: (u, c) :: (x, c) :: (zw, a) :: r2) := h2.perm (by
          refine (List.Perm.cons _ (List.Perm.swap _ _ _)).trans ((List.Perm.swap _ _ _).trans (List.Perm.cons _ ?_))
          exact (List.Perm.cons _ (List.Perm.swap _ _ _)).trans (List.Perm.swap _ _ _))
        obtain ⟨h5, h6⟩ := swap_len (hqw (u, c) (hr'.mem_iff.2 (by simp))).2 hb h4
        have h7 : Ok ((x, c) :: (y, c) :: (zw, a) :: (u, b) :: r2) := h5.perm (by
          refine (List.Perm.cons _ ((List.Perm.swap _ _ _).trans (List.Perm.cons _ (List.Perm.swap _ _ _)))).trans (List.Perm.swap _ _ _))
        refine ⟨c, (zw, a) :: (u, b) :: r2, ?_, h7, two c _ h7, ?_⟩
        · have := (hr'.map (·.1)).symm.trans e2
          simpa using this
        · have := cost_perm hr'
          simp only [cost] at h3 h6 this ec ⊢
          omega
      · have hT : List.Perm ((x, a) :: (y, b) :: q) ((zw, m) :: (x, a) :: (y, b) :: r) :=
          ((hr.cons (y, b)).cons (x, a)).trans ((List.Perm.cons _ (List.Perm.swap _ _ _)).trans (List.Perm.swap _ _ _))
        have h1 := alone (r := (x, a) :: (y, b) :: r) (by simp) (hk'.perm hT) (fun v hv => by
          simp only [List.mem_cons] at hv
          rcases hv with rfl | rfl | hv
          · simp only; omega
          · simp only; omega
          · have := hqm v (hr.mem_iff.2 (by simp [hv]))
            have : v.2 ≠ m := fun e => hu ⟨v, hv, e⟩
            omega)
        refine again ((zw, m - 1) :: (x, a) :: (y, b) :: r) ?_ ?_ ?_ h1.2
        · rw [et, tall_perm hT]; simp only [tall]; have := h1.1; omega
        · rw [ec, cost_perm hT]; simp only [cost]; have := Nat.mul_le_mul_left zw (Nat.sub_le m 1); omega
        · have h8 := (hT.map (·.1)).symm
          simp only [List.map] at h8 ⊢
          exact h8.trans ((e2.cons y).cons x)
/-- Two least are joined, again and again, up to one; the sum of all that is joined. -/
inductive Huff : List Nat → Nat → Prop
  | one (w : Nat) : Huff [w] 0
  | join (ws rest : List Nat) (x y c : Nat) : ws.Perm (x :: y :: rest) → (∀ w ∈ rest, x ≤ w ∧ y ≤ w) → Huff ((x + y) :: rest) c → Huff ws (c + (x + y))
theorem best {ws : List Nat} {c : Nat} (h : Huff ws c) : ∀ p : List P2, (p.map (·.1)).Perm ws → Ok p → c ≤ cost p := by
  induction h with
  | one w => intro p _ _; exact Nat.zero_le _
  | join ws rest x y c hp hle _ ih =>
    intro p hpw hk
    obtain ⟨m, q, h1, h2, h3, h4⟩ := sisters (tall p) p x y rest (Nat.le_refl _) (hpw.trans hp) hle hk
    have h5 : Ok ((x + y, m - 1) :: q) := by
      obtain ⟨M, hM, hkM⟩ := h2
      have hm : m ≤ M := hM (x, m) (by simp)
      refine ⟨M, fun z hz => ?_, ?_⟩
      · rcases List.mem_cons.1 hz with rfl | hz
        · simp only; omega
        · exact hM z (by simp [hz])
      · simp only [kr] at hkM ⊢
        rw [show M - (m - 1) = (M - m) + 1 by omega, Nat.pow_succ]
        omega
    have h6 := ih ((x + y, m - 1) :: q) (by simpa using h1.cons (x + y)) h5
    obtain ⟨m, rfl⟩ := Nat.exists_eq_add_of_le h3
    simp only [cost, Nat.add_sub_cancel_left] at h4 h6
    simp only [Nat.mul_add, Nat.add_mul] at h4 h6
    omega
end Go.Proofs.Ytfecngncapenjaa.Hf
