/- Refs' bytes, plain: what is taken is what was put. -/
import Derived.Test.YtiloclekhddkfaaOctR
namespace Go.Proofs.Ytiloclekhddkfaa

theorem nm_numB (ar r : List Int) (n : Nat) (h : n ≤ 9007199254740991) : nm (ar ++ Oct.numB n ++ r) ar.length = .ok ((n : Int), (ar.length : Int) + (Oct.numB n).length) := by
  unfold nm
  rw [Oct.tkNum_numB ar r n h]
  rfl
theorem tkRef_refB (ar r : List Int) (x : Rf) (hs : Sm x.s) (hrt : rt x = true) : tkRef (ar ++ refB x ++ r) ar.length = .ok (x, (ar.length : Int) + (refB x).length) := by
  have hb := (rt_iff x).1 hrt
  obtain ⟨s, a, b, o⟩ := x
  simp only at hb hs
  obtain ⟨na, rfl⟩ := Int.eq_ofNat_of_zero_le (show 0 ≤ a by omega)
  obtain ⟨nb, rfl⟩ := Int.eq_ofNat_of_zero_le (show 0 ≤ b by omega)
  obtain ⟨no, rfl⟩ := Int.eq_ofNat_of_zero_le (show 0 ≤ o by omega)
  have e : refB ⟨s, (na : Int), (nb : Int), (no : Int)⟩ = s ++ (Oct.numB na ++ (Oct.numB nb ++ Oct.numB no)) := by
    unfold refB
    rw [nums3]
    rfl
  have hl : s.length = 32 := hs.len
  rw [e]
  have q1 : nm (ar ++ (s ++ (Oct.numB na ++ (Oct.numB nb ++ Oct.numB no))) ++ r) ((ar.length : Int) + 32) = .ok ((na : Int), (ar.length : Int) + 32 + (Oct.numB na).length) := by
    have := nm_numB (ar ++ s) (Oct.numB nb ++ Oct.numB no ++ r) na (by omega)
    simp only [List.append_assoc, List.length_append, hl] at this ⊢
    simpa using this
  have q2 : nm (ar ++ (s ++ (Oct.numB na ++ (Oct.numB nb ++ Oct.numB no))) ++ r) ((ar.length : Int) + 32 + (Oct.numB na).length) = .ok ((nb : Int), (ar.length : Int) + 32 + (Oct.numB na).length + (Oct.numB nb).length) := by
    have := nm_numB (ar ++ s ++ Oct.numB na) (Oct.numB no ++ r) nb (by omega)
    simp only [List.append_assoc, List.length_append, hl] at this ⊢
    simpa [Int.add_assoc] using this
  have q3 : nm (ar ++ (s ++ (Oct.numB na ++ (Oct.numB nb ++ Oct.numB no))) ++ r) ((ar.length : Int) + 32 + (Oct.numB na).length + (Oct.numB nb).length) = .ok ((no : Int), (ar.length : Int) + 32 + (Oct.numB na).length + (Oct.numB nb).length + (Oct.numB no).length) := by
    have := nm_numB (ar ++ s ++ Oct.numB na ++ Oct.numB nb) r no (by omega)
    simp only [List.append_assoc, List.length_append, hl] at this ⊢
    simpa [Int.add_assoc] using this
  have q4 : sumA (ar ++ (s ++ (Oct.numB na ++ (Oct.numB nb ++ Oct.numB no))) ++ r) ((ar.length : Int)).toNat = s := by
    unfold sumA
    simp only [Int.toNat_natCast, List.append_assoc, List.drop_left]
    rw [← hl, List.take_left]
  unfold tkRef
  rw [if_neg (by simp only [List.length_append, hl]; omega)]
  simp only [q1, q2, q3, q4]
  rw [if_pos hrt]
  simp only [List.length_append, hl]
  congr 2
  omega
theorem tkRefs_refsB : ∀ (L : List Rf) (ar r : List Int), (∀ x ∈ L, Sm x.s ∧ rt x = true) → tkRefs (ar ++ refsB L ++ r) L.length ar.length = .ok (L, (ar.length : Int) + (refsB L).length)
  | [], ar, r, _ => by simp [tkRefs, refsB]
  | x :: L, ar, r, h => by
    have e : refsB (x :: L) = refB x ++ refsB L := by simp [refsB]
    have h1 := tkRef_refB ar (refsB L ++ r) x (h x (by simp)).1 (h x (by simp)).2
    have h2 := tkRefs_refsB L (ar ++ refB x) r (fun y hy => h y (by simp [hy]))
    rw [e, List.length_cons, tkRefs]
    simp only [List.append_assoc, List.length_append, Int.natCast_add] at h1 h2 ⊢
    simp only [h1, h2]
    congr 2
    omega
theorem take_put {L : List Rf} (hs : ∀ r ∈ L, Sm r.s) (h : (putR L).2 = 0) : takeF (putR L).1 = .ok L := by
  unfold putR at h ⊢
  by_cases h64 : 64 < L.length
  · rw [if_pos h64] at h; simp at h
  rw [if_neg h64] at h ⊢
  by_cases ha : L.all rt = true
  · rw [if_pos ha]
    simp only
    have q1 := nm_numB [] (refsB L) L.length (by omega)
    have q2 := tkRefs_refsB L (Oct.numB L.length) [] (fun x hx => ⟨hs x hx, List.all_eq_true.1 ha x hx⟩)
    simp only [List.nil_append, List.append_nil, List.length_nil, Int.ofNat_zero, Int.zero_add] at q1 q2
    unfold takeF
    have q1' : nm (Oct.numB L.length ++ refsB L) 0 = .ok ((L.length : Int), ((Oct.numB L.length).length : Int)) := by simpa using q1
    simp only [q1', Int.toNat_natCast, q2]
    rw [if_neg (by omega), if_neg (by rw [List.length_append]; omega)]
  · rw [if_neg ha] at h; simp at h
theorem nm_back {bs : List Int} {i : Nat} {n j : Int} (hb : ∀ x ∈ bs, 0 ≤ x ∧ x < 256) (h : nm bs (i : Int) = .ok (n, j)) : ∃ z k : Nat, n = z ∧ j = k ∧ i < k ∧ k ≤ bs.length ∧ bs.drop i = Oct.numB z ++ bs.drop k := by
  obtain ⟨hk, hok⟩ := nm_ok hb h
  have e0 := Oct.tkNum_in bs i (by omega)
  rw [hk] at e0
  have h' : (Oct.tkGo 0 0 (bs.drop i)).2.2 = 0 := by have := congrArg (fun x => x.2.2) e0; simpa [Oct.fin] using this.symm
  obtain ⟨z, e1, e2, _, e4⟩ := Oct.take_numB (bs.drop i) 0 0 (by omega) (fun x hx => hb x (List.mem_of_mem_drop hx)) h'
  have f1 : n = (Oct.tkGo 0 0 (bs.drop i)).1 := congrArg (fun x => x.1) e0
  have f2 : j = (i : Int) + (Oct.tkGo 0 0 (bs.drop i)).2.1 := by have := congrArg (fun x => x.2.1) e0; simpa [Oct.fin, h'] using this
  refine ⟨z, j.toNat, by rw [f1, e1]; simp, by omega, by omega, by omega, ?_⟩
  have f3 : j.toNat = i + (Oct.tkGo 0 0 (bs.drop i)).2.1.toNat := by omega
  rw [e2, f3, ← List.drop_drop, Nat.sub_zero, List.take_append_drop]
theorem tkRef_back {bs : List Int} {i : Nat} {r : Rf} {j : Int} (hb : ∀ x ∈ bs, 0 ≤ x ∧ x < 256) (h : tkRef bs (i : Int) = .ok (r, j)) : ∃ k : Nat, j = k ∧ i < k ∧ k ≤ bs.length ∧ Sm r.s ∧ rt r = true ∧ bs.drop i = refB r ++ bs.drop k := by
  have hok := tkRef_ok hb h
  unfold tkRef at h
  split at h
  · cases h
  rename_i hge
  split at h
  · cases h
  rename_i x1 h1
  obtain ⟨a, i1⟩ := x1
  split at h
  · cases h
  rename_i x2 h2
  obtain ⟨b, i2⟩ := x2
  split at h
  · cases h
  rename_i x3 h3
  obtain ⟨o, i3⟩ := x3
  split at h
  · simp only at h h2 h3
    have e := Except.ok.inj h
    obtain ⟨e1, e2⟩ := Prod.mk.inj e
    subst e1
    subst e2
    obtain ⟨za, ka, ea, eka, h11, h12, h13⟩ := nm_back (i := i + 32) hb (by simpa using h1)
    subst eka
    obtain ⟨zb, kb, eb, ekb, h21, h22, h23⟩ := nm_back hb h2
    subst ekb
    obtain ⟨zo, ko, eo, eko, h31, h32, h33⟩ := nm_back hb h3
    subst eko
    refine ⟨ko, rfl, by omega, by omega, hok.1, hok.2.1, ?_⟩
    have e : refB ⟨sumA bs (i : Int).toNat, a, b, o⟩ = sumA bs i ++ (Oct.numB za ++ (Oct.numB zb ++ Oct.numB zo)) := by
      unfold refB
      rw [nums3, ea, eb, eo]
      rfl
    rw [e]
    unfold sumA
    have h4 : bs.drop i = (bs.drop i).take 32 ++ bs.drop (i + 32) := by rw [← List.drop_drop, List.take_append_drop]
    rw [h13, h23, h33] at h4
    simpa using h4
  · cases h
theorem tkRefs_back {bs : List Int} (hb : ∀ x ∈ bs, 0 ≤ x ∧ x < 256) : ∀ (n i : Nat) (L : List Rf) (j : Int), i ≤ bs.length → tkRefs bs n (i : Int) = .ok (L, j) → ∃ k : Nat, j = k ∧ k ≤ bs.length ∧ L.length = n ∧ (∀ r ∈ L, Sm r.s ∧ rt r = true) ∧ bs.drop i = refsB L ++ bs.drop k
  | 0, i, L, j, hi, h => by
    rw [tkRefs] at h
    cases h
    exact ⟨i, rfl, hi, rfl, by simp, by simp [refsB]⟩
  | n + 1, i, L, j, hi, h => by
    rw [tkRefs] at h
    split at h
    · cases h
    rename_i x h1
    obtain ⟨r, j1⟩ := x
    obtain ⟨k1, rfl, h11, h12, h13, h14, h15⟩ := tkRef_back hb h1
    split at h
    · cases h
    rename_i y h2
    obtain ⟨M, j2⟩ := y
    obtain ⟨k2, rfl, h21, h22, h23, h24⟩ := tkRefs_back hb n k1 M j2 h12 h2
    cases h
    refine ⟨k2, rfl, h21, by simp [h22], fun x hx => ?_, ?_⟩
    · rcases List.mem_cons.1 hx with q | q
      · subst q; exact ⟨h13, h14⟩
      · exact h23 x q
    · rw [h15, h24]
      simp [refsB]
theorem put_take {bs : List Int} (hb : ∀ x ∈ bs, 0 ≤ x ∧ x < 256) {L : List Rf} (h : takeF bs = .ok L) : putR L = (bs, 0) := by
  unfold takeF at h
  split at h
  · cases h
  rename_i x h1
  obtain ⟨n, i0⟩ := x
  obtain ⟨z, k, rfl, rfl, h11, h12, h13⟩ := nm_back (i := 0) hb (by simpa using h1)
  split at h
  · cases h
  rename_i h64
  split at h
  · cases h
  rename_i y h2
  obtain ⟨M, j⟩ := y
  simp only [Int.toNat_natCast] at h2 h64
  obtain ⟨k2, rfl, h21, h22, h23, h24⟩ := tkRefs_back hb z k M j h12 h2
  split at h
  · cases h
  rename_i hend
  simp only at h hend
  cases h
  have hk2 : k2 = bs.length := by omega
  subst hk2
  rw [List.drop_length, List.append_nil] at h24
  rw [h24] at h13
  unfold putR
  rw [if_neg (by rw [h22]; omega), if_pos (List.all_eq_true.2 (fun x hx => (h23 x hx).2)), h22]
  simp at h13
  rw [← h13]
end Go.Proofs.Ytiloclekhddkfaa
