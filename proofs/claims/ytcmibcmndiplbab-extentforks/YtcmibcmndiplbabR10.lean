/- Claim and Give, on both maps, answer the same. -/
import Derived.Test.YtcmibcmndiplbabR9
namespace Go.Proofs.Ytcmibcmndiplbab
open Go.RowKit Go.Lib Go.Shelf

/-- Two calls at one argument: either both refuse with one code and turn nothing, or both answer 0 and the maps go on saying the same. -/
def Two (f g : Nat) (arg : Value) (p q : Nat) (A B : Int) (base bl : Nat) (l : List (Int × Int)) (v : Value) (T : List Bool) : Prop :=
  (∃ x : Int, (∀ w, Live w p A B base bl l → base ≤ w.heap.size → Calls Try.prog f #[.pointer (some ⟨p, 0, none⟩), arg] w fun e w' => e = .returned (.int .i64 x) ∧ Below w.heap.size w w') ∧
    (∀ w, RefAt w q A base v T → base ≤ w.heap.size → Calls Try.prog g #[.pointer (some ⟨q, 0, none⟩), arg] w fun e w' => e = .returned (.int .i64 x) ∧ Below w.heap.size w w')) ∨
  (∃ L' T', Says A B L' T' ∧ (∀ w, Live w p A B base bl l → base ≤ w.heap.size → Calls Try.prog f #[.pointer (some ⟨p, 0, none⟩), arg] w fun e w' => e = .returned (.int .i64 0) ∧ Maps w p A B base bl L' w') ∧
    (∀ w, RefAt w q A base v T → base ≤ w.heap.size → Calls Try.prog g #[.pointer (some ⟨q, 0, none⟩), arg] w fun e w' => e = .returned (.int .i64 0) ∧ Refs w q A base T' w'))

theorem claim_two {A B : Int} {l : List (Int × Int)} {T : List Bool} (hs : Says A B l T) (hA : 0 ≤ A) (hB : B ≤ 4096) (p q base bl : Nat) (v : Value) (at' n : Int) (hat : at' ≤ 9223372036854775807) :
    Two 22 40 (.agg #[.int .i64 at', .int .i64 n]) p q A B base bl l v T := by
  have hlen := hs.len
  have hcan := hs.can
  by_cases hN : NotMine A B at' n
  · refine .inl ⟨2, fun w h _ => ?_, fun w h _ => claimref_bad h hA hlen at' n hat hN⟩
    obtain ⟨cap, hM⟩ := h.at'
    exact claim_bad hM hA hB at' n hN
  · have hN' := hN
    unfold NotMine at hN'
    obtain ⟨a, rfl⟩ : ∃ a : Nat, at' = A + (a : Int) := ⟨(at' - A).toNat, by omega⟩
    obtain ⟨m, rfl⟩ : ∃ m : Nat, n = (m : Int) := ⟨n.toNat, by omega⟩
    have ham : a + m ≤ T.length := by omega
    have hfr := says_free hs a m ham false
    rcases idx_cases (fun x => decide (x.1 ≤ A + (a : Int) ∧ A + (a : Int) + (m : Int) ≤ x.2)) l with ⟨hi, hno⟩ | ⟨i, hi, hil, hp, _⟩
    · have hall : allB T a m false = false := by
        cases hc : allB T a m false with
        | false => rfl
        | true =>
          have h1 := hfr.1 ((allB_iff T a m false).1 hc)
          obtain ⟨x, hx, hx1, hx2⟩ := within_of_cov l A (A + (a : Int)) (A + (a : Int) + (m : Int)) hcan (by omega) (fun k h2 h3 => (h1 k h2 h3).2 rfl)
          have := hno x hx
          simp at this
          omega
      refine .inl ⟨10, fun w h hbs => ?_, fun w h hbs => ?_⟩
      · obtain ⟨cap, hM⟩ := h.at'
        refine (claim_ok A B _ _ p bl cap base l w hM hbs hA hB hN (h.small hA hB) (-1) hi).mono ?_
        rintro e w' (⟨_, rfl, hb⟩ | ⟨h0, _⟩)
        · exact ⟨rfl, hb⟩
        · omega
      · refine (claimref_ok h hbs hlen a m hN).mono ?_
        rintro e w' (⟨_, rfl, hb⟩ | ⟨h0, _⟩)
        · exact ⟨rfl, hb⟩
        · rw [hall] at h0; exact absurd h0 (by decide)
    · have hp' : (l.getD i default).1 ≤ A + (a : Int) ∧ A + (a : Int) + (m : Int) ≤ (l.getD i default).2 := by simpa using hp
      have hm : l.getD i default ∈ l := by simp [List.getD, List.getElem?_eq_getElem hil]
      have hall : allB T a m false = true := by
        refine (allB_iff T a m false).2 (hfr.2 fun k h1 h2 => ⟨fun _ => rfl, fun _ => ⟨_, hm, by omega, by omega⟩⟩)
      obtain ⟨a1, a2, a3⟩ := cut_can l i A (A + (a : Int)) (A + (a : Int) + (m : Int)) hcan hil hp'.1 (by omega) hp'.2
      refine .inr ⟨cutAt l i (A + (a : Int)) (A + (a : Int) + (m : Int)), setB T a m true, ?_, fun w h hbs => ?_, fun w h hbs => ?_⟩
      · refine says_set hs a m true ham a1 (fun k => ?_)
        rw [a2 k]
        by_cases hr : A + (a : Int) ≤ k ∧ k < A + (a : Int) + (m : Int)
        · rw [if_pos hr]; simp [hr]
        · rw [if_neg hr]; simp [hr]
      · obtain ⟨cap, hM⟩ := h.at'
        refine (claim_ok A B _ _ p bl cap base l w hM hbs hA hB hN (h.small hA hB) i hi).mono ?_
        rintro e w' (⟨h0, _⟩ | ⟨_, rfl, hM'⟩)
        · omega
        · rw [Int.toNat_natCast, cutAt_eq l i _ _ hil] at hM'
          exact ⟨rfl, hM'⟩
      · refine (claimref_ok h hbs hlen a m hN).mono ?_
        rintro e w' (⟨h0, _⟩ | ⟨_, rfl, hR⟩)
        · rw [hall] at h0; exact absurd h0 (by decide)
        · exact ⟨rfl, hR⟩

theorem give_two {A B : Int} {l : List (Int × Int)} {T : List Bool} (hs : Says A B l T) (hA : 0 ≤ A) (hB : B ≤ 4096) (p q base bl : Nat) (v : Value) (at' n : Int) (hat : at' ≤ 9223372036854775807) :
    Two 15 41 (.agg #[.int .i64 at', .int .i64 n]) p q A B base bl l v T := by
  have hlen := hs.len
  have hcan := hs.can
  by_cases hN : NotMine A B at' n
  · refine .inl ⟨2, fun w h _ => ?_, fun w h _ => giveref_bad h hA hlen at' n hat hN⟩
    obtain ⟨cap, hM⟩ := h.at'
    exact give_bad hM hA hB at' n hN
  · have hN' := hN
    unfold NotMine at hN'
    obtain ⟨a, rfl⟩ : ∃ a : Nat, at' = A + (a : Int) := ⟨(at' - A).toNat, by omega⟩
    obtain ⟨m, rfl⟩ : ∃ m : Nat, n = (m : Int) := ⟨n.toNat, by omega⟩
    have ham : a + m ≤ T.length := by omega
    have hfr := says_free hs a m ham true
    rcases idx_cases (fun x => decide (A + (a : Int) < x.2 ∧ x.1 < A + (a : Int) + (m : Int))) l with ⟨hi, hno⟩ | ⟨i, hi, hil, hp, _⟩
    · have hno' : ∀ x ∈ l, ¬ (A + (a : Int) < x.2 ∧ x.1 < A + (a : Int) + (m : Int)) := fun x hx => by simpa using hno x hx
      have hall : allB T a m true = true := by
        refine (allB_iff T a m true).2 (hfr.2 fun k h1 h2 => ⟨fun hc => ?_, fun h => by cases h⟩)
        obtain ⟨x, hx, hx1, hx2⟩ := hc
        exact absurd ⟨by omega, by omega⟩ (hno' x hx)
      obtain ⟨a1, a2, a3⟩ := join_can l A (A + (a : Int)) (A + (a : Int) + (m : Int)) hcan (by omega) (by omega) (by omega) hno'
      refine .inr ⟨joined l (A + (a : Int), A + (a : Int) + (m : Int)), setB T a m false, ?_, fun w h hbs => ?_, fun w h hbs => ?_⟩
      · refine says_set hs a m false ham a1 (fun k => ?_)
        rw [a2 k]
        by_cases hr : A + (a : Int) ≤ k ∧ k < A + (a : Int) + (m : Int)
        · rw [if_pos hr]; simp [hr]
        · rw [if_neg hr]; simp [hr]
      · obtain ⟨cap, hM⟩ := h.at'
        refine (give_ok A B _ _ p bl cap base l w hM hbs hA hB hN (h.small hA hB) (-1) hi).mono ?_
        rintro e w' (⟨h0, _⟩ | ⟨_, rfl, hM'⟩)
        · omega
        · exact ⟨rfl, hM'⟩
      · refine (giveref_ok h hbs hlen a m hN).mono ?_
        rintro e w' (⟨h0, _⟩ | ⟨_, rfl, hR⟩)
        · rw [hall] at h0; exact absurd h0 (by decide)
        · exact ⟨rfl, hR⟩
    · have hp' : A + (a : Int) < (l.getD i default).2 ∧ (l.getD i default).1 < A + (a : Int) + (m : Int) := by simpa using hp
      have hm : l.getD i default ∈ l := by simp [List.getD, List.getElem?_eq_getElem hil]
      have hge := hcan.ge _ hm
      have hall : allB T a m true = false := by
        cases hc : allB T a m true with
        | false => rfl
        | true =>
          have h1 := hfr.1 ((allB_iff T a m true).1 hc)
          by_cases hk : (l.getD i default).1 ≤ A + (a : Int)
          · exact absurd ((h1 (A + (a : Int)) (by omega) (by omega)).1 ⟨_, hm, by omega, by omega⟩) (by decide)
          · exact absurd ((h1 (l.getD i default).1 (by omega) (by omega)).1 ⟨_, hm, by omega, by omega⟩) (by decide)
      refine .inl ⟨9, fun w h hbs => ?_, fun w h hbs => ?_⟩
      · obtain ⟨cap, hM⟩ := h.at'
        refine (give_ok A B _ _ p bl cap base l w hM hbs hA hB hN (h.small hA hB) i hi).mono ?_
        rintro e w' (⟨_, rfl, hb⟩ | ⟨h0, _⟩)
        · exact ⟨rfl, hb⟩
        · omega
      · refine (giveref_ok h hbs hlen a m hN).mono ?_
        rintro e w' (⟨_, rfl, hb⟩ | ⟨h0, _⟩)
        · exact ⟨rfl, hb⟩
        · rw [hall] at h0; exact absurd h0 (by decide)
end Go.Proofs.Ytcmibcmndiplbab
