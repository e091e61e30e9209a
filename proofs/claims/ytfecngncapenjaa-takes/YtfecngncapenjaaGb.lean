/- Texts joined into one: B1, B2, B3, B4. -/
import Derived.Test.YtfecngncapenjaaGc
import Derived.Test.YtfecngncapenjaaMultiB
import Derived.Test.YtfecngncapenjaaMultiC
import Derived.Test.YtfecngncapenjaaP2
/- Branches: what bits lead to (plain mathematics). -/
namespace Go.Proofs.Ytfecngncapenjaa

/-- A branch: where a bit 0 leads to, where a bit 1 does, is it a word's end, what that word says. -/
abbrev Br := Nat × Nat × Bool × Nat
def br0 : Br := (0, 0, false, 0)
def tob (s : Br) (b : Nat) : Nat := if b = 0 then s.1 else s.2.1
def upd (s : Br) (b n : Nat) : Br := if b = 0 then (n, s.2.1, s.2.2) else (s.1, n, s.2.2)
theorem tob_upd (s : Br) {b c : Nat} (n : Nat) (hb : b < 2) (hc : c < 2) : tob (upd s b n) c = if c = b then n else tob s c := by
  have h1 : b = 0 ∨ b = 1 := by omega
  have h2 : c = 0 ∨ c = 1 := by omega
  rcases h1 with rfl | rfl <;> rcases h2 with rfl | rfl <;> simp [tob, upd]
theorem upd_rest (s : Br) (b n : Nat) : (upd s b n).2.2 = s.2.2 := by unfold upd; split <;> rfl
/-- One bit further. -/
def ld1 (s : List Br × Nat) (b : Nat) : List Br × Nat := if tob (s.1.getD s.2 br0) b = 0 then (s.1.set s.2 (upd (s.1.getD s.2 br0) b s.1.length) ++ [br0], s.1.length) else (s.1, tob (s.1.getD s.2 br0) b)
def ld (s : List Br × Nat) (bs : List Nat) : List Br × Nat := bs.foldl ld1 s
theorem ld_snoc (s : List Br × Nat) (a : List Nat) (b : Nat) : ld s (a ++ [b]) = ld1 (ld s a) b := by unfold ld; rw [List.foldl_append]; rfl
/-- Branches, and which bits lead to each of them. -/
structure Tr (L : List Br) (P : List (List Nat)) : Prop where
  len : P.length = L.length
  pos : 0 < L.length
  root : P.getD 0 [] = []
  nodup : P.Nodup
  closed : ∀ s b, s ++ [b] ∈ P → s ∈ P
  kids : ∀ i, i < L.length → ∀ b, b < 2 → (tob (L.getD i br0) b = 0 ∧ P.getD i [] ++ [b] ∉ P) ∨ (0 < tob (L.getD i br0) b ∧ tob (L.getD i br0) b < L.length ∧ P.getD (tob (L.getD i br0) b) [] = P.getD i [] ++ [b])
theorem getD_app {α : Type} (d : α) (L : List α) (x : α) (i : Nat) : (L ++ [x]).getD i d = if i < L.length then L.getD i d else if i = L.length then x else d := by
  simp only [List.getD]
  by_cases h : i < L.length
  · rw [List.getElem?_append_left h, if_pos h]
  · rw [List.getElem?_append_right (by omega), if_neg h]
    by_cases e : i = L.length
    · rw [if_pos e, e, Nat.sub_self]; rfl
    · rw [if_neg e, List.getElem?_eq_none (by simp; omega)]; rfl
theorem getD_set {α : Type} (d : α) (L : List α) (x : α) {k : Nat} (hk : k < L.length) (i : Nat) : (L.set k x).getD i d = if i = k then x else L.getD i d := by
  simp only [List.getD, List.getElem?_set]
  by_cases e : k = i
  · subst e; rw [if_pos rfl, if_pos hk, if_pos rfl]; rfl
  · rw [if_neg e, if_neg (fun h => e h.symm)]
theorem mem_at {P : List (List Nat)} {i : Nat} (h : i < P.length) : P.getD i [] ∈ P := by
  simp only [List.getD, List.getElem?_eq_getElem h, Option.getD_some]
  exact List.getElem_mem h
theorem at_inj {P : List (List Nat)} (hn : P.Nodup) {i j : Nat} (hi : i < P.length) (hj : j < P.length) (h : P.getD i [] = P.getD j []) : i = j := by
  simp only [List.getD, List.getElem?_eq_getElem hi, List.getElem?_eq_getElem hj, Option.getD_some] at h
  exact (List.getElem_inj hn).1 h
/-- What a step does. -/
structure Stp (L : List Br) (P : List (List Nat)) (a b : Nat) (L' : List Br) (P' : List (List Nat)) (a' : Nat) : Prop where
  tr : Tr L' P'
  at' : a' < L'.length
  path : P'.getD a' [] = P.getD a [] ++ [b]
  sub : ∀ s ∈ P, s ∈ P'
  new : ∀ s ∈ P', s ∈ P ∨ s = P.getD a [] ++ [b]
  more : L.length ≤ L'.length
  few : L'.length ≤ L.length + 1
  old : ∀ i, i < L.length → P'.getD i [] = P.getD i [] ∧ (L'.getD i br0).2.2 = (L.getD i br0).2.2
  fresh : ∀ i, L.length ≤ i → (L'.getD i br0).2.2 = (false, 0)
theorem Tr.step {L : List Br} {P : List (List Nat)} (h : Tr L P) {a : Nat} (ha : a < L.length) {b : Nat} (hb : b < 2) : ∃ P', Stp L P a b (ld1 (L, a) b).1 P' (ld1 (L, a) b).2 := by
  rcases h.kids a ha b hb with ⟨h0, hn⟩ | ⟨h0, h1, h2⟩
  · have e : ld1 (L, a) b = (L.set a (upd (L.getD a br0) b L.length) ++ [br0], L.length) := by unfold ld1; rw [if_pos h0]
    rw [e]
    obtain ⟨M, hM⟩ : ∃ M, L.set a (upd (L.getD a br0) b L.length) = M := ⟨_, rfl⟩
    rw [hM]
    have hMl : M.length = L.length := by rw [← hM, List.length_set]
    have hMg : ∀ i, M.getD i br0 = if i = a then upd (L.getD a br0) b L.length else L.getD i br0 := fun i => by rw [← hM]; exact getD_set br0 L _ ha i
    have hP : ∀ i, i < L.length → (P ++ [P.getD a [] ++ [b]]).getD i [] = P.getD i [] := fun i hi => by rw [getD_app, if_pos (by rw [h.len]; exact hi)]
    have hPn : (P ++ [P.getD a [] ++ [b]]).getD L.length [] = P.getD a [] ++ [b] := by rw [getD_app, if_neg (by rw [h.len]; omega), if_pos h.len.symm]
    have hg : ∀ i, i < L.length → (M ++ [br0]).getD i br0 = if i = a then upd (L.getD a br0) b L.length else L.getD i br0 := fun i hi => by rw [getD_app, if_pos (by rw [hMl]; exact hi), hMg]
    refine ⟨P ++ [P.getD a [] ++ [b]], ⟨⟨by simp [h.len, hMl], by simp, ?_, ?_, ?_, ?_⟩, by simp [hMl], by rw [hPn], fun s hs => List.mem_append_left _ hs, fun s hs => by simpa using hs, by simp [hMl], by simp [hMl], fun i hi => ⟨hP i hi, ?_⟩, fun i hi => ?_⟩⟩
    · rw [hP 0 h.pos]; exact h.root
    · exact List.nodup_append.2 ⟨h.nodup, by simp, fun x hx y hy e => by simp at hy; subst hy; subst e; exact hn hx⟩
    · intro s c hm
      rcases List.mem_append.1 hm with hm | hm
      · exact List.mem_append_left _ (h.closed _ _ hm)
      · simp only [List.mem_singleton] at hm
        rw [(List.append_inj' hm rfl).1]
        exact List.mem_append_left _ (mem_at (by rw [h.len]; exact ha))
    · intro i hi c hc
      simp only [List.length_append, List.length_cons, List.length_nil, hMl] at hi ⊢
      by_cases hil : i < L.length
      · rw [hg i hil, hP i hil]
        by_cases eia : i = a
        · subst eia
          rw [if_pos rfl, tob_upd _ _ hb hc]
          by_cases ecb : c = b
          · subst ecb
            rw [if_pos rfl]
            exact .inr ⟨by omega, by omega, hPn⟩
          · rw [if_neg ecb]
            rcases h.kids i hil c hc with ⟨k0, k1⟩ | ⟨k0, k1, k2⟩
            · refine .inl ⟨k0, fun hm => ?_⟩
              rcases List.mem_append.1 hm with hm | hm
              · exact k1 hm
              · simp at hm; exact ecb hm
            · exact .inr ⟨k0, by omega, by rw [hP _ k1]; exact k2⟩
        · rw [if_neg eia]
          rcases h.kids i hil c hc with ⟨k0, k1⟩ | ⟨k0, k1, k2⟩
          · refine .inl ⟨k0, fun hm => ?_⟩
            rcases List.mem_append.1 hm with hm | hm
            · exact k1 hm
            · simp only [List.mem_singleton] at hm
              have := (List.append_inj' hm rfl).1
              exact eia (at_inj h.nodup (by rw [h.len]; exact hil) (by rw [h.len]; exact ha) this)
          · exact .inr ⟨k0, by omega, by rw [hP _ k1]; exact k2⟩
      · obtain rfl : i = L.length := by omega
        rw [hPn, getD_app, if_neg (by omega), if_pos hMl.symm]
        have e0 : tob br0 c = 0 := by unfold tob br0; split <;> rfl
        refine .inl ⟨e0, fun hm => ?_⟩
        rcases List.mem_append.1 hm with hm | hm
        · exact hn (h.closed _ _ hm)
        · simp at hm
    · rw [hg i hi]
      by_cases e : i = a
      · rw [if_pos e, upd_rest, e]
      · rw [if_neg e]
    · rw [getD_app, hMl]
      rw [if_neg (by omega)]
      split <;> rfl
  · have e : ld1 (L, a) b = (L, tob (L.getD a br0) b) := by unfold ld1; rw [if_neg (fun e : tob (L.getD a br0) b = 0 => by omega)]
    rw [e]
    exact ⟨P, ⟨h, h1, h2, fun s hs => hs, fun s hs => .inl hs, Nat.le_refl _, Nat.le_succ _, fun i _ => ⟨rfl, rfl⟩, fun i hi => by
      simp only [List.getD, List.getElem?_eq_none hi]; rfl⟩⟩
end Go.Proofs.Ytfecngncapenjaa

/- Branches of words (plain mathematics). -/
namespace Go.Proofs.Ytfecngncapenjaa

theorem Tr.pre {L : List Br} {P : List (List Nat)} (h : Tr L P) : ∀ (n : Nat) (p : List Nat), p.length ≤ n → p ∈ P → ∀ s, s <+: p → s ∈ P
  | n, p, hn, hp, s, hs => by
    by_cases e : s = p
    · rw [e]; exact hp
    · obtain ⟨u, rfl⟩ := hs
      have hu : u ≠ [] := fun e2 => e (by rw [e2, List.append_nil])
      obtain ⟨v, b, rfl⟩ : ∃ v b, u = v ++ [b] := ⟨u.dropLast, u.getLast hu, (List.dropLast_concat_getLast hu).symm⟩
      cases n with
      | zero => simp at hn
      | succ n =>
        refine Tr.pre h n (s ++ v) (by simp at hn ⊢; omega) (h.closed _ b ?_) s (List.prefix_append _ _)
        rw [List.append_assoc]; exact hp
/-- Branches of the words of the first bytes. -/
structure Tw (W : Nat → List Nat) (c : Nat) (L : List Br) (P : List (List Nat)) : Prop where
  tr : Tr L P
  only : ∀ s ∈ P, s = [] ∨ ∃ k, k < c ∧ W k ≠ [] ∧ s <+: W k
  all : ∀ k, k < c → W k ≠ [] → ∀ s, s <+: W k → s ∈ P
  word : ∀ i, i < L.length → ((L.getD i br0).2.2.1 = true ↔ ∃ k, k < c ∧ W k ≠ [] ∧ W k = P.getD i [])
  says : ∀ i k, i < L.length → k < c → W k ≠ [] → W k = P.getD i [] → (L.getD i br0).2.2.2 = k
/-- While a word is led. -/
structure Tj (W : Nat → List Nat) (c : Nat) (w : List Nat) (L : List Br) (P : List (List Nat)) (a j : Nat) : Prop where
  tr : Tr L P
  at' : a < L.length
  path : P.getD a [] = w.take j
  only : ∀ s ∈ P, s = [] ∨ (∃ k, k < c ∧ W k ≠ [] ∧ s <+: W k) ∨ s <+: w
  all : ∀ k, k < c → W k ≠ [] → ∀ s, s <+: W k → s ∈ P
  word : ∀ i, i < L.length → ((L.getD i br0).2.2.1 = true ↔ ∃ k, k < c ∧ W k ≠ [] ∧ W k = P.getD i [])
  says : ∀ i k, i < L.length → k < c → W k ≠ [] → W k = P.getD i [] → (L.getD i br0).2.2.2 = k
theorem Tw.begin {W : Nat → List Nat} {c : Nat} {L : List Br} {P : List (List Nat)} (h : Tw W c L P) (w : List Nat) : Tj W c w L P 0 0 :=
  ⟨h.tr, h.tr.pos, by rw [h.tr.root]; rfl, fun s hs => (h.only s hs).elim .inl (fun k => .inr (.inl k)), h.all, h.word, h.says⟩
theorem Tj.step {W : Nat → List Nat} {c : Nat} {w : List Nat} {L : List Br} {P : List (List Nat)} {a j : Nat} (h : Tj W c w L P a j) (hj : j < w.length) (hb : w.getD j 0 < 2) :
    ∃ P', Tj W c w (ld1 (L, a) (w.getD j 0)).1 P' (ld1 (L, a) (w.getD j 0)).2 (j + 1) ∧ (ld1 (L, a) (w.getD j 0)).1.length ≤ L.length + 1 := by
  obtain ⟨P', s⟩ := h.tr.step h.at' hb
  have hnx : P.getD a [] ++ [w.getD j 0] = w.take (j + 1) := by
    rw [h.path, List.take_add_one, List.getElem?_eq_getElem hj]
    simp [List.getD, List.getElem?_eq_getElem hj]
  have hout : ∀ i, L.length ≤ i → i < (ld1 (L, a) (w.getD j 0)).1.length → P'.getD i [] ∉ P := fun i h1 h2 hm => by
    obtain ⟨k, hk, ek⟩ := List.mem_iff_getElem.1 hm
    have hkL : k < L.length := by rw [← h.tr.len]; exact hk
    have e1 : P.getD k [] = P'.getD i [] := by simp only [List.getD, List.getElem?_eq_getElem hk, Option.getD_some]; exact ek
    rw [← (s.old k hkL).1] at e1
    have := at_inj s.tr.nodup (by rw [s.tr.len]; have := s.more; omega) (by rw [s.tr.len]; exact h2) e1
    omega
  refine ⟨P', ⟨s.tr, s.at', by rw [s.path, hnx], fun x hx => ?_, fun k hk hw x hx => s.sub _ (h.all k hk hw x hx), fun i hi => ?_, fun i k hi hk hw e => ?_⟩, s.few⟩
  · rcases s.new x hx with hx | hx
    · exact h.only x hx
    · rw [hx, hnx]; exact .inr (.inr (List.take_prefix _ _))
  · by_cases hil : i < L.length
    · rw [(s.old i hil).1, (s.old i hil).2]; exact h.word i hil
    · rw [s.fresh i (by omega)]
      refine ⟨fun e => (by cases e), fun ⟨k, h1, h2, h3⟩ => ?_⟩
      exact absurd (by rw [← h3]; exact h.all k h1 h2 _ (List.prefix_refl _)) (hout i (by omega) hi)
  · by_cases hil : i < L.length
    · rw [(s.old i hil).2]
      rw [(s.old i hil).1] at e
      exact h.says i k hil hk hw e
    · exact absurd (by rw [← e]; exact h.all k hk hw _ (List.prefix_refl _)) (hout i (by omega) hi)
theorem Tj.run {W : Nat → List Nat} {c : Nat} {w : List Nat} (hw : ∀ b ∈ w, b < 2) {L : List Br} {P : List (List Nat)} (h : Tj W c w L P 0 0) : ∀ j, j ≤ w.length → ∃ P', Tj W c w (ld (L, 0) (w.take j)).1 P' (ld (L, 0) (w.take j)).2 j ∧ (ld (L, 0) (w.take j)).1.length ≤ L.length + j
  | 0, _ => ⟨P, h, Nat.le_refl _⟩
  | j + 1, hj => by
    obtain ⟨P1, h1, l1⟩ := Tj.run hw h j (by omega)
    have hb : w.getD j 0 < 2 := hw _ (by simp only [List.getD, List.getElem?_eq_getElem (show j < w.length by omega), Option.getD_some]; exact List.getElem_mem _)
    obtain ⟨P2, h2, l2⟩ := h1.step (by omega) hb
    have e : ld (L, 0) (w.take (j + 1)) = ld1 (ld (L, 0) (w.take j)) (w.getD j 0) := by
      rw [List.take_add_one, List.getElem?_eq_getElem (show j < w.length by omega)]
      simp only [Option.toList_some]
      rw [ld_snoc]
      simp [List.getD, List.getElem?_eq_getElem (show j < w.length by omega)]
    rw [e]
    exact ⟨P2, h2, Nat.le_trans l2 (by omega)⟩
def mark (s : Br) (c : Nat) : Br := (s.1, s.2.1, true, c)
/-- One word more. -/
def addW (L : List Br) (w : List Nat) (c : Nat) : List Br := (ld (L, 0) w).1.set (ld (L, 0) w).2 (mark ((ld (L, 0) w).1.getD (ld (L, 0) w).2 br0) c)
theorem Tw.add {W : Nat → List Nat} {c : Nat} {L : List Br} {P : List (List Nat)} (h : Tw W c L P) (hb : ∀ b ∈ W c, b < 2) (hne : W c ≠ []) (hd : ∀ k, k < c → W k ≠ W c) :
    (∃ P', Tw W (c + 1) (addW L (W c) c) P') ∧ (ld (L, 0) (W c)).2 < (ld (L, 0) (W c)).1.length ∧ (ld (L, 0) (W c)).1.length ≤ L.length + (W c).length := by
  obtain ⟨P', t, l⟩ := (h.begin (W c)).run hb (W c).length (Nat.le_refl _)
  rw [List.take_length] at t l
  unfold addW
  generalize (ld (L, 0) (W c)).1 = M at t l ⊢
  generalize (ld (L, 0) (W c)).2 = a at t ⊢
  have hp := t.path
  rw [List.take_length] at hp
  have hg := getD_set br0 M (mark (M.getD a br0) c) t.at'
  have hPa : W c ∈ P' := by rw [← hp]; exact mem_at (by rw [t.tr.len]; exact t.at')
  refine ⟨⟨P', ⟨⟨by rw [List.length_set]; exact t.tr.len, by rw [List.length_set]; exact t.tr.pos, t.tr.root, t.tr.nodup, t.tr.closed, fun i hi b hb => ?_⟩, fun s hs => ?_, fun k hk hw s hs => ?_, fun i hi => ?_, fun i k hi hk hw e => ?_⟩⟩, t.at', l⟩
  · rw [List.length_set] at hi ⊢
    have e : tob ((M.set a (mark (M.getD a br0) c)).getD i br0) b = tob (M.getD i br0) b := by
      rw [hg]
      by_cases e : i = a
      · rw [if_pos e, e]; unfold tob mark; rfl
      · rw [if_neg e]
    rw [e]
    exact t.tr.kids i hi b hb
  · rcases t.only s hs with h1 | ⟨k, h1, h2, h3⟩ | h1
    · exact .inl h1
    · exact .inr ⟨k, by omega, h2, h3⟩
    · exact .inr ⟨c, by omega, hne, h1⟩
  · by_cases e : k = c
    · subst e; exact t.tr.pre _ _ (Nat.le_refl _) hPa s hs
    · exact t.all k (by omega) hw s hs
  · rw [List.length_set] at hi
    rw [hg]
    by_cases e : i = a
    · subst e
      rw [if_pos rfl]
      exact ⟨fun _ => ⟨c, by omega, hne, hp.symm⟩, fun _ => rfl⟩
    · rw [if_neg e, t.word i hi]
      refine ⟨fun ⟨k, h1, h2, h3⟩ => ⟨k, by omega, h2, h3⟩, fun ⟨k, h1, h2, h3⟩ => ⟨k, ?_, h2, h3⟩⟩
      by_cases e2 : k = c
      · subst e2
        rw [← hp] at h3
        exact absurd (at_inj t.tr.nodup (by rw [t.tr.len]; exact t.at') (by rw [t.tr.len]; exact hi) h3).symm e
      · omega
  · rw [List.length_set] at hi
    rw [hg]
    by_cases e1 : i = a
    · subst e1
      rw [if_pos rfl]
      rw [hp] at e
      by_cases e2 : k = c
      · exact e2.symm
      · exact absurd e (hd k (by omega))
    · rw [if_neg e1]
      by_cases e2 : k = c
      · subst e2
        rw [← hp] at e
        exact absurd (at_inj t.tr.nodup (by rw [t.tr.len]; exact t.at') (by rw [t.tr.len]; exact hi) e).symm e1
      · exact t.says i k hi (by omega) hw e
theorem Tw.skip {W : Nat → List Nat} {c : Nat} {L : List Br} {P : List (List Nat)} (h : Tw W c L P) (he : W c = []) : Tw W (c + 1) L P := by
  have hk : ∀ k, k < c + 1 → W k ≠ [] → k < c := fun k h1 h2 => by
    by_cases e : k = c
    · subst e; exact absurd he h2
    · omega
  refine ⟨h.tr, fun s hs => (h.only s hs).imp id (fun ⟨k, h1, h2⟩ => ⟨k, by omega, h2⟩), fun k h1 h2 => h.all k (hk k h1 h2) h2, fun i hi => ?_, fun i k hi h1 h2 => h.says i k hi (hk k h1 h2) h2⟩
  rw [h.word i hi]
  exact ⟨fun ⟨k, h1, h2, h3⟩ => ⟨k, by omega, h2, h3⟩, fun ⟨k, h1, h2, h3⟩ => ⟨k, hk k h1 h2, h2, h3⟩⟩
theorem Tw.zero (W : Nat → List Nat) : Tw W 0 [br0] [[]] := by
  refine ⟨⟨rfl, by simp, rfl, by simp, fun s b hs => by simp at hs, fun i hi b hb => ?_⟩, fun s hs => .inl (by simpa using hs), fun k hk => by omega, fun i hi => ?_, fun i k hi hk => by omega⟩
  · simp only [List.length_cons, List.length_nil] at hi
    obtain rfl : i = 0 := by omega
    refine .inl ⟨?_, by simp⟩
    unfold tob; split <;> rfl
  · simp only [List.length_cons, List.length_nil] at hi
    obtain rfl : i = 0 := by omega
    refine ⟨fun e => (by simp [br0] at e), fun ⟨k, h1, _⟩ => by omega⟩
end Go.Proofs.Ytfecngncapenjaa

/- Branches in the heap. -/
namespace Go.Proofs.Ytfecngncapenjaa
open Go.RowKit Oct

def be (s : Br) : List Value := [.int .i64 (s.1 : Int), .int .i64 (s.2.1 : Int), .bool s.2.2.1, .int .u8 (s.2.2.2 : Int)]
theorem be_len (s : Br) : (be s).length = 4 := rfl
theorem be_one (s : Br) : ∀ u ∈ be s, u.oneCell' = true := fun u hu => by
  simp only [be, List.mem_cons, List.not_mem_nil, or_false] at hu
  rcases hu with rfl | rfl | rfl | rfl <;> rfl
theorem eltB : Elt Try.prog 86 99 4 24 := by
  have h1 : ((Try.prog.info? 99).map (fun i => (i.size, i.bytes, (i.zero.map (fun z => z.cells.size))))) = some (4, 24, some 4) := by kernel_rfl
  refine ⟨Try.underlying86, ?_, by decide⟩
  cases hi : Try.prog.info? 99 with
  | none => rw [hi] at h1; simp at h1
  | some i =>
    rw [hi] at h1
    simp at h1
    obtain ⟨h1, h2, z, h3, h4⟩ := h1
    exact ⟨i, z, rfl, h3, h1, h2, h4⟩
theorem built99 : Try.prog.built 99 [] = some (be br0).toArray := by kernel_rfl
section
variable {ops : Array Oper} {rest : List Oper} {o : Oper} {a : Act} {w : World} {Q : Exit → Act → World → Prop}
theorem wp_zero99 (hgd : o.guard = none) (ho : o.op = .build 99 #[])
    (h : wpList Try.prog ops Q rest (a.put o.dst (.agg (be br0).toArray)) w) : wpList Try.prog ops Q (o :: rest) a w := by
  have e : ((#[] : Array (Nat × Operand)).map fun (i, x) => (i, a.eval x)).toList = [] := by simp
  refine wpList_build hgd 99 #[] ho (by rw [e, built99]; rfl) ?_
  rw [e, built99]
  exact h
end
/-- The cell that tells where a bit leads to. -/
theorem be_to (s : Br) {b : Nat} (hb : b < 2) : (be s)[b]? = some (.int .i64 (tob s b : Nat)) := by
  have : b = 0 ∨ b = 1 := by omega
  rcases this with rfl | rfl <;> rfl
theorem be_upd (s : Br) {b : Nat} (hb : b < 2) (n : Nat) : (be s).set b (.int .i64 (n : Int)) = be (upd s b n) := by
  have : b = 0 ∨ b = 1 := by omega
  rcases this with rfl | rfl <;> rfl
theorem be_mark (s : Br) (c : Nat) : ((be s).set 2 (.bool true)).set 3 (.int .u8 (c : Int)) = be (mark s c) := rfl
theorem own_partsB {w : World} {base : Nat} {v : Value} {L : List Br} (h : OwnE be 4 99 w base v L) (h0 : 0 < L.length) : ∃ g c, v = .slice (some ⟨g, 0, none⟩) L.length c ∧ L.length ≤ c ∧ c ≤ maxLen := by
  obtain ⟨a, c, e, h1, h2, _⟩ := (h.rd br0).shape
  rcases h.own.2 with ⟨rfl, hn⟩ | ⟨g, cap, cur, rfl, _⟩
  · omega
  · obtain ⟨_, _, e3⟩ := Value.slice.inj e
    subst e3
    exact ⟨g, cap, rfl, h1, h2⟩
theorem fl_cell {L : List Br} {i j : Nat} (hi : i < L.length) (hj : j < 4) {y : Br} {u : Value} (hy : be y = (be (L.getD i br0)).set j u) : (fl be L).set (i * 4 + j) u = fl be (L.set i y) := by
  have hl := fl_len be 4 L (fun _ _ => rfl)
  refine List.ext_getElem? (fun p => ?_)
  rw [fl_set be 4 br0 L (fun _ _ => rfl) i hi y rfl p]
  by_cases e2 : i * 4 + j = p
  · subst e2
    have e3 : (i * 4 + j) / 4 = i := by omega
    have e4 : (i * 4 + j) % 4 = j := by omega
    rw [List.getElem?_set_self (by rw [hl]; omega), e3, e4, hy, List.getElem?_set_self (by rw [be_len]; exact hj)]
    simp
  · rw [List.getElem?_set_ne e2]
    by_cases e : p / 4 = i
    · have h3 := fl_get be 4 br0 L (fun _ _ => rfl) i (p % 4) hi (by omega)
      rw [show i * 4 + p % 4 = p by omega] at h3
      have e5 : j ≠ p % 4 := by omega
      rw [h3, hy, List.getElem?_set_ne e5, e]
      simp
    · have e6 : ¬ (p / 4 = i ∧ 0 < 4) := fun h => e h.1
      simp only [e6, if_false]
theorem own_setB {w : World} {base g n c : Nat} {L : List Br} (h : OwnE be 4 99 w base (.slice (some ⟨g, 0, none⟩) n c) L) (hn : L.length = n) {i j : Nat} (hi : i < L.length) (hj : j < 4) {y : Br} {u : Value} (hy : be y = (be (L.getD i br0)).set j u) :
    OwnE be 4 99 (w.setCell ⟨g, i * 4 + j, none⟩ u) base (.slice (some ⟨g, 0, none⟩) n c) (L.set i y) := by
  subst hn
  refine ⟨?_, fun x _ => ⟨rfl, be_one x⟩⟩
  have h1 := own_setCell h.own (i * 4 + j) u
  rw [fl_cell hi hj hy] at h1
  rw [List.length_set]
  exact h1
theorem own_frozenB {w : World} {base g n c : Nat} {L : List Br} (h : OwnE be 4 99 w base (.slice (some ⟨g, 0, none⟩) n c) L) (j : Nat) : w.frozen? ⟨g, j, none⟩ = false := by
  obtain ⟨cur, h1, _⟩ := own_rowE h
  exact frozen_of_row _ _ _ _ _ h1
end Go.Proofs.Ytfecngncapenjaa

/- Branches: lead. -/
namespace Go.Proofs.Ytfecngncapenjaa
open Go.RowKit Oct Go.Lib

/-- What holds the branches. -/
def BrB (w : World) (base p : Nat) (L : List Br) : Prop := ∃ v, w.heap[p]? = some (.cells #[v] 86 (0, 0)) ∧ OwnE be 4 99 w base v L
section
variable {w : World}
set_option maxHeartbeats 16000000 in
set_option maxRecDepth 100000 in
theorem lead54 (base p : Nat) (L : List Br) (str : ByteArray) (bs : List Nat) (hW : BrB w base p L) (hB : BW str bs) (hbase : base ≤ w.heap.size) (hbp : base ≤ p) (hlen : L.length + bs.length ≤ 100000)
    (hT : ∀ k, k ≤ bs.length → (ld (L, 0) (bs.take k)).2 < (ld (L, 0) (bs.take k)).1.length ∧ (ld (L, 0) (bs.take k)).1.length ≤ L.length + k) :
    Calls Try.prog 54 #[.pointer (some ⟨p, 0, none⟩), .string str] w fun e w' => e = .returned (.int .i64 ((ld (L, 0) bs).2 : Nat)) ∧ BrB w' base p (ld (L, 0) bs).1 ∧ Below base w w' := by
  have HW := Hid.mk hW
  have HBW := Hid.mk hB
  have HT := Hid.mk hT
  have hsz := hB.size
  obtain ⟨N, HN⟩ : ∃ N, Hid (bs.length = N) := ⟨_, ⟨rfl⟩⟩
  rw [HN.out] at hsz hlen
  obtain ⟨Z, HZ⟩ : ∃ Z, Hid (ld (L, 0) bs = Z) := ⟨_, ⟨rfl⟩⟩
  rw [HZ.out]
  have hN6 : N ≤ 100000 := by omega
  clear hW hB hT
  go_enter Try.func54, Try.ntmps54
  go_upto_region 3 with fail
  go_loopg [5, 6, 7, 10] N (fun gg s5 _s6 _s7 s10 wr => ∃ (k a : Nat) (M : List Br), k ≤ N ∧ N - k ≤ gg ∧ s10 = .int .i64 (k : Int) ∧ s5 = .int .i64 (a : Int) ∧ Hid (ld (L, 0) (bs.take k) = (M, a)) ∧ Hid (BrB wr base p M) ∧ Hid (Below base w wr))
  case atStart => exact ⟨0, 0, L, Nat.zero_le _, by omega, rfl, rfl, ⟨by rw [List.take_zero]; rfl⟩, HW, ⟨Below.refl _ _⟩⟩
  case round =>
    clear HW
    obtain ⟨k, a, M, hk, hgg, rfl, rfl, HD, HW, HB⟩ := hrel
    rename World => wo
    have hbo : base ≤ wo.heap.size := Nat.le_trans hbase HB.out.size
    by_cases hlt : k < N
    · have hks : k < str.size := by omega
      have hltz : (k : Int) < (str.size : Int) := by omega
      obtain ⟨b, Hb⟩ : ∃ b, Hid (bs.getD k 0 = b) := ⟨_, ⟨rfl⟩⟩
      have hsk := HBW.out.at' k hks
      rw [Hb.out] at hsk
      have hkb : k < bs.length := by rw [HN.out]; exact hlt
      have Hbk : Hid (bs[k] = b) := ⟨by rw [← Hb.out]; simp [List.getD, List.getElem?_eq_getElem hkb]⟩
      have hb2 : b < 2 := by rw [← Hbk.out]; exact HBW.out.bin _ (List.getElem_mem _)
      have hb2z : (b : Int) < 2 := by omega
      have hskz : (str[k].toNat : Int) = 48 + (b : Int) := by omega
      have hbw : IntKind.u8.wrap (48 + (b : Int) - 48) = (b : Int) := by
        have : b = 0 ∨ b = 1 := by omega
        rcases this with rfl | rfl <;> rfl
      have HDn : Hid (ld (L, 0) (bs.take (k + 1)) = ld1 (M, a) b) := ⟨by
        rw [List.take_add_one, List.getElem?_eq_getElem hkb]
        simp only [Option.toList_some]
        rw [Hbk.out, ld_snoc, HD.out]⟩
      have hT1 := HT.out k (by rw [HN.out]; exact hk)
      rw [HD.out] at hT1
      simp only at hT1
      obtain ⟨hal, hMl⟩ := hT1
      have hT2 := HT.out (k + 1) (by rw [HN.out]; omega)
      rw [HDn.out] at hT2
      obtain ⟨v, hp, hO⟩ := HW.out
      have HP := Hid.mk hp
      obtain ⟨g, c, e, hMc, hcm⟩ := own_partsB hO (by omega)
      subst e
      have HO := Hid.mk hO
      obtain ⟨n, Hn⟩ : ∃ x, Hid (M.length = x) := ⟨_, ⟨rfl⟩⟩
      rw [Hn.out] at HO HP hal hMl hMc
      have halz : (a : Int) < (n : Int) := by omega
      have hcx : c ≤ 9223372036854775807 := hcm
      have hnx : (n : Int) ≤ 9223372036854775807 := by omega
      clear hp hO HW hsk
      have d0 : wo.cell? ⟨p, 0, none⟩ = some (.slice (some ⟨g, 0, none⟩) n c) := by rw [cell_of_row _ _ _ _ _ _ HP.out]; rfl
      obtain ⟨t, Ht⟩ : ∃ t, Hid (tob (M.getD a br0) b = t) := ⟨_, ⟨rfl⟩⟩
      have d1 : wo.cell? ⟨g, a * 4 + b, none⟩ = some (.int .i64 (t : Nat)) := by
        rw [own_cellE HO.out br0 (by rw [Hn.out]; exact hal) (by omega), be_to _ hb2, Ht.out]
      by_cases ht : t = 0
      · subst ht
        have d0' : wo.drew.cell? ⟨p, 0, none⟩ = some (.slice (some ⟨g, 0, none⟩) n c) := d0
        have d1' : wo.drew.cell? ⟨g, a * 4 + b, none⟩ = some (.int .i64 0) := d1
        have f1 : wo.frozen? ⟨g, a * 4 + b, none⟩ = false := own_frozenB HO.out _
        have f1' : wo.drew.frozen? ⟨g, a * 4 + b, none⟩ = false := f1
        go_upto_region 7 with fail
        go_region
        obtain ⟨w3, Hw3⟩ : ∃ x, Hid ((wo.setCell ⟨g, a * 4 + b, none⟩ (.int .i64 (n : Int))).drew = x) := ⟨_, ⟨rfl⟩⟩
        have hgp : g ≠ p := fun e => Ty.ne (e := 99) (f := 86) (own_ty HO.out.own (g := g) rfl) ⟨_, HP.out⟩ (by decide) e
        have hbg : base ≤ g := (HO.out.lt g (mem_ob.2 rfl)).1
        have HO3 : Hid (OwnE be 4 99 w3 base (.slice (some ⟨g, 0, none⟩) n c) (M.set a (upd (M.getD a br0) b n))) := ⟨by
          rw [← Hw3.out]
          exact (own_setB HO.out Hn.out (by rw [Hn.out]; exact hal) (by omega) (be_upd _ hb2 n).symm).far (X := []) (Chg.refl _ _).drew (by simp)⟩
        have HP3 : Hid (w3.heap[p]? = some (.cells #[.slice (some ⟨g, 0, none⟩) n c] 86 (0, 0))) := ⟨by
          rw [← Hw3.out]
          show (wo.setCell ⟨g, a * 4 + b, none⟩ (.int .i64 (n : Int))).heap[p]? = _
          rw [heap_setCell_other _ _ _ _ (fun e => hgp e.symm)]; exact HP.out⟩
        have HB3 : Hid (Below base w w3) := ⟨by rw [← Hw3.out]; exact (HB.out.setCell (p := ⟨g, a * 4 + b, none⟩) hbg _).drew⟩
        rw [Hw3.out]
        clear d0 d1 d0' d1' f1 f1' HP HO
        obtain ⟨M1, HM1⟩ : ∃ x, Hid (M.set a (upd (M.getD a br0) b n) = x) := ⟨_, ⟨rfl⟩⟩
        rw [HM1.out] at HO3
        have HM1l : Hid (M1.length = n) := ⟨by rw [← HM1.out, List.length_set, Hn.out]⟩
        have HDe : Hid (ld1 (M, a) b = (M1 ++ [br0], n)) := ⟨by unfold ld1; rw [if_pos (by simp only; rw [Ht.out])]; simp only; rw [Hn.out, HM1.out]⟩
        have hs3 : base ≤ w3.heap.size := Nat.le_trans hbase HB3.out.size
        obtain ⟨w4, Hw4⟩ : ∃ x, Hid (w3.alloc (.cells (be br0).toArray 99) = x) := ⟨_, ⟨rfl⟩⟩
        obtain ⟨u, Hu⟩ : ∃ x, Hid (w3.heap.size = x) := ⟨_, ⟨rfl⟩⟩
        have HB34 : Hid (Below w3.heap.size w3 w4) := ⟨by rw [← Hw4.out]; exact (Below.refl _ w3).alloc (Nat.le_refl _) _⟩
        have HR4 : Hid (RdE be 4 br0 w4 (.slice (some ⟨u, 0, none⟩) 1 1) [br0]) := ⟨by rw [← Hw4.out, ← Hu.out]; exact rde_one w3 br0 rfl (be_one br0) 99⟩
        have HO4 : Hid (OwnE be 4 99 w4 base (.slice (some ⟨g, 0, none⟩) n c) M1) := ⟨HO3.out.far (Chg.ofBelow (X := []) HB34.out) (by simp)⟩
        have HP4 := Hid.mk (below_at HB34.out HP3.out)
        have HB4 : Hid (Below base w w4) := ⟨HB3.out.trans (HB34.out.mono hs3)⟩
        have hs4 : base ≤ w4.heap.size := Nat.le_trans hs3 HB34.out.size
        have d3 : w3.cell? ⟨p, 0, none⟩ = some (.slice (some ⟨g, 0, none⟩) n c) := by rw [cell_of_row _ _ _ _ _ _ HP3.out]; rfl
        go_upto_region 9 with (first
          | (refine wp_zero99 rfl rfl ?_)
          | (refine wp_sliceE eltB rfl (.tmp 43) rfl (be br0).toArray rfl rfl (by decide) ?_; rw [Hw4.out, Hu.out])
          | (at_builtin; refine wp_appE (f := be) (d := br0) (L := M1) (M := [br0]) eltB rfl (.tmp 42) (.tmp 44) rfl rfl HO4.out rfl HR4.out (by have := HM1l.out; simp only [List.length_cons, List.length_nil]; omega) (by have := HM1l.out; simp only [List.length_cons, List.length_nil]; unfold maxLen; omega) hs4 ?_; intro v5 w5 hO5 hC5 hV5
             have HO5 := Hid.mk hO5
             have HB5 : Hid (Below base w w5) := ⟨HB4.out.trans (hC5.below hs4 (fun y hy => (HO4.out.lt y hy).1))⟩
             have HP5 : Hid (w5.heap[p]? = some (.cells #[.slice (some ⟨g, 0, none⟩) n c] 86 (0, 0))) := ⟨(hC5.block p (Array.getElem?_eq_some_iff.1 HP4.out).1 (fun hm => hgp (Option.some.inj (mem_ob.1 hm)))).trans HP4.out⟩
             obtain ⟨g5, c5, e5, hc5, hcm5⟩ := own_partsB HO5.out (by simp)
             subst e5
             rw [List.length_append, HM1l.out, List.length_cons, List.length_nil] at hc5 HO5 ⊢
             have hp5 : w5.cell? ⟨p, 0, none⟩ = some (.slice (some ⟨g, 0, none⟩) n c) := (by rw [cell_of_row _ _ _ _ _ _ HP5.out]; rfl)
             have fp5 : w5.frozen? ⟨p, 0, none⟩ = false := frozen_of_row _ _ _ _ _ HP5.out
             clear hO5 hC5 hV5 d3))
        obtain ⟨w6, Hw6⟩ : ∃ x, Hid (w5.setCell ⟨p, 0, none⟩ (.slice (some ⟨g5, 0, none⟩) (n + (0 + 1)) c5) = x) := ⟨_, ⟨rfl⟩⟩
        have HP6 : Hid (w6.heap[p]? = some (.cells #[.slice (some ⟨g5, 0, none⟩) (n + (0 + 1)) c5] 86 (0, 0))) := ⟨by rw [← Hw6.out]; have := heap_setCell_same w5 p 0 _ 86 (.slice (some ⟨g5, 0, none⟩) (n + (0 + 1)) c5) HP5.out; simpa using this⟩
        have HO6 : Hid (OwnE be 4 99 w6 base (.slice (some ⟨g5, 0, none⟩) (n + (0 + 1)) c5) (M1 ++ [br0])) := ⟨by
          rw [← Hw6.out]
          refine HO5.out.far (X := [p]) ((Chg.refl [p] w5).setCell (.inl (by simp)) _) (fun y hy hm => ?_)
          simp at hm
          subst hm
          exact Ty.ne (e := 99) (f := 86) (HO5.out.ty y hy) ⟨_, HP5.out⟩ (by decide) rfl⟩
        have HB6 : Hid (Below base w w6) := ⟨by rw [← Hw6.out]; exact HB5.out.setCell (p := ⟨p, 0, none⟩) hbp _⟩
        rw [Hw6.out]
        have d6 : w6.cell? ⟨p, 0, none⟩ = some (.slice (some ⟨g5, 0, none⟩) (n + (0 + 1)) c5) := by rw [cell_of_row _ _ _ _ _ _ HP6.out]; rfl
        have e6 : w6.cell? ⟨g5, a * 4 + b, none⟩ = some (.int .i64 (n : Nat)) := by
          rw [own_cellE HO6.out br0 (by rw [List.length_append, HM1l.out]; omega) (by omega), getD_app, if_pos (by rw [HM1l.out]; exact hal), be_to _ hb2, ← HM1.out, getD_set br0 M _ (by rw [Hn.out]; exact hal), if_pos rfl, tob_upd _ _ hb2 hb2, if_pos rfl]
        have hal1 : (a : Int) < (n : Int) + 1 := by omega
        have hcx5 : c5 ≤ 9223372036854775807 := hcm5
        clear hp5 fp5
        go_wp2_with fail
        go_roundg (N - (k + 1))
        case measure => omega
        case rel => exact ⟨k + 1, n, M1 ++ [br0], by omega, by omega, by go_num, rfl, ⟨by rw [HDn.out, HDe.out]⟩, ⟨_, HP6.out, HO6.out⟩, HB6⟩
      · have htb : ((t : Int) == 0) = false := by simp; omega
        have HDe : Hid (ld1 (M, a) b = (M, t)) := ⟨by unfold ld1; rw [if_neg (by simp only; rw [Ht.out]; exact ht)]; simp only; rw [Ht.out]⟩
        go_wp2_with fail
        go_roundg (N - (k + 1))
        case measure => omega
        case rel => exact ⟨k + 1, t, M, by omega, by omega, by go_num, rfl, ⟨by rw [HDn.out, HDe.out]⟩, ⟨_, HP.out, HO.out⟩, HB⟩
    · obtain rfl : k = N := by omega
      have HDf : Hid (Z = (M, a)) := ⟨by rw [← HZ.out, ← HD.out, List.take_of_length_le (by rw [HN.out]; exact Nat.le_refl _)]⟩
      go_wp2_with fail
      go_ret
      refine ⟨by rw [HDf.out]; rfl, by rw [HDf.out]; exact HW.out, HB.out⟩
end
end Go.Proofs.Ytfecngncapenjaa
