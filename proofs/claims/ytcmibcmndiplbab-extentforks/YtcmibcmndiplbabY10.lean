/- slices.Replace over rows of spans, whole; slices.DeleteFunc of two spans, whole. -/
import Derived.Test.YtcmibcmndiplbabY7
import Derived.Test.YtcmibcmndiplbabY8
import Derived.Test.YtcmibcmndiplbabY9
namespace Go.Proofs.Ytcmibcmndiplbab
open Go.RowKit Go.Lib Go.Shelf

theorem insert_any (g n cap gv cv i : Nat) (C : Array Value) (l vs : List (Int × Int)) (w : World) (hR : RowOf w g n cap C l) (Cv : Array Value) (hv : SpAt w gv cv vs) (hvr : Row w gv Cv) (hne : gv ≠ g) (h0 : 0 < vs.length) (hin : i ≤ n) (h5 : n + vs.length ≤ 100000) :
    Calls Try.prog 49 #[.slice (some ⟨g, 0, none⟩) n cap, .int .i64 i, .slice (some ⟨gv, 0, none⟩) vs.length cv] w (Repl w g (l.take i ++ vs ++ l.drop i)) := by
  rcases Nat.lt_or_eq_of_le hin with h | h
  · rcases Nat.lt_or_ge cap (n + vs.length) with hc | hc
    · exact insert_c g n cap gv cv i C l vs w hR hv h0 h hc h5
    · exact (insert_e g n cap gv cv i C l vs w hR Cv hv hvr hne h0 h hc h5).mono fun _ _ h => h.repl
  · subst h
    have e1 : l.take i ++ vs ++ l.drop i = l ++ vs := by
      rw [List.take_of_length_le (by rw [hR.len]; exact Nat.le_refl _), List.drop_of_length_le (by rw [hR.len]; exact Nat.le_refl _), List.append_nil]
    rw [e1]
    rcases Nat.lt_or_ge cap (i + vs.length) with hc | hc
    · exact insert_a2 g i cap gv cv C l vs w hR hv h0 hc h5
    · exact (insert_a1 g i cap gv cv C l vs w hR hv h0 hc h5).mono fun _ _ h => h.repl

set_option maxHeartbeats 2000000 in
set_option maxRecDepth 100000 in
theorem replace_i (g n cap gv cv i : Nat) (C : Array Value) (l vs : List (Int × Int)) (w : World) (hR : RowOf w g n cap C l) (Cv : Array Value) (hv : SpAt w gv cv vs) (hvr : Row w gv Cv) (hne : gv ≠ g) (h0 : 0 < vs.length) (hin : i ≤ n) (h5 : n + vs.length ≤ 100000) :
    Calls Try.prog 43 #[.slice (some ⟨g, 0, none⟩) n cap, .int .i64 i, .int .i64 i, .slice (some ⟨gv, 0, none⟩) vs.length cv] w (Repl w g (l.take i ++ vs ++ l.drop i)) := by
  have hcon := insert_any g n cap gv cv i C l vs w hR Cv hv hvr hne h0 hin h5
  have hn := hR.room
  have hn5 := hR.n5
  have hbig := hR.big
  unfold maxLen at hbig
  generalize l.take i ++ vs ++ l.drop i = L' at hcon ⊢
  generalize vs.length = m at hcon ⊢
  have h3 : ((i : Int) == (i : Int)) = true := by simp
  have h6 : (i : Int) ≤ (n : Int) := by omega
  have h7 : (n : Int) ≤ (cap : Int) := by omega
  have h8 : (i : Int) ≤ (cap : Int) := by omega
  clear hR hv hvr
  go_enter Try.func43, Try.ntmps43
  go_wp2_with (go_at_call 49; refine hcon.mono ?_; rintro e w' ⟨g', cap', C', rfl, hF, hG, hd⟩; have HF : Hid (RowOf w' g' L'.length cap' C' L' ∧ w.grownBy w' (some g) ∧ (g' = g ∨ w.heap.size ≤ g')) := ⟨⟨hF, hG, hd⟩⟩; clear hF hG hd hcon)
  all_goals go_ret
  all_goals exact ⟨g', cap', C', rfl, HF.out⟩

theorem replace_any (g n cap gv cv i j : Nat) (C : Array Value) (l vs : List (Int × Int)) (w : World) (hR : RowOf w g n cap C l) (Cv : Array Value) (hv : SpAt w gv cv vs) (hvr : Row w gv Cv) (hvs : Cv.size ≠ 0) (hne : gv ≠ g) (hij : i ≤ j) (hjn : j ≤ n) (hc : i < j ∨ 0 < vs.length) (h5 : i + vs.length + (n - j) ≤ 100000) :
    Calls Try.prog 43 #[.slice (some ⟨g, 0, none⟩) n cap, .int .i64 i, .int .i64 j, .slice (some ⟨gv, 0, none⟩) vs.length cv] w (Repl w g (l.take i ++ vs ++ l.drop j)) := by
  rcases Nat.lt_or_eq_of_le hij with h | h
  · rcases Nat.lt_or_eq_of_le hjn with h' | h'
    · rcases Nat.lt_or_ge cap (i + vs.length + (n - j)) with hc | hc
      · exact replace_c g n cap gv cv i j C l vs w hR hv h h' hc h5
      · rcases Nat.lt_or_ge j (i + vs.length) with hd | hd
        · exact (replace_e g n cap gv cv i j C l vs w hR Cv hv hvr hvs hne h h' hd hc h5).mono fun _ _ h => h.repl
        · exact (replace_d g n cap gv cv i j C l vs w hR hv h h' hd).mono fun _ _ h => h.repl
    · subst h'
      have e1 : l.take i ++ vs ++ l.drop j = l.take i ++ vs := by
        rw [List.drop_of_length_le (by rw [hR.len]; exact Nat.le_refl _), List.append_nil]
      rw [e1]
      rcases Nat.lt_or_ge cap (i + vs.length) with hc | hc
      · exact replace_b2 g j cap gv cv i C l vs w hR hv h hc (by omega)
      · exact (replace_b1 g j cap gv cv i C l vs w hR hv h hc (by omega)).mono fun _ _ h => h.repl
  · subst h
    exact replace_i g n cap gv cv i C l vs w hR Cv hv hvr hne (by omega) hjn (by omega)

/-- The spans that are not empty. -/
def ne2 (x y : Int × Int) : List (Int × Int) := [x, y].filter fun z => !(z.1 == z.2)

theorem del2_any (x y : Int × Int) (b : Nat) (w : World) (h : Row w b #[.int .i64 x.1, .int .i64 x.2, .int .i64 y.1, .int .i64 y.2]) :
    Calls Try.prog 23 #[.slice (some ⟨b, 0, none⟩) 2 2, .func (.func 24) #[] #[]] w fun e w' => ∃ Cv, e = .returned (.slice (some ⟨b, 0, none⟩) (ne2 x y).length 2) ∧ Row w' b Cv ∧ Cv.size ≠ 0 ∧ SpAt w' b 2 (ne2 x y) ∧ w.grownBy w' (some b) := by
  obtain ⟨a, c⟩ := x
  obtain ⟨d, f⟩ := y
  cases h1 : (a == c) with
  | false =>
    cases h2 : (d == f) with
    | false =>
      have e : ne2 (a, c) (d, f) = [(a, c), (d, f)] := by simp [ne2, h1, h2]
      rw [e]
      refine (del_nn a c d f h1 h2 b w h).mono ?_
      rintro e w' ⟨rfl, hr, hg⟩
      refine ⟨_, rfl, hr, by simp, ⟨by simp, by simp, hr.lt, fun j hj => ?_⟩, hg⟩
      match j, hj with
      | 0, _ => exact ⟨hr.cell 0, hr.cell 1⟩
      | 1, _ => exact ⟨hr.cell 2, hr.cell 3⟩
      | j + 2, hj => exact absurd hj (by show ¬ j + 2 < 2; omega)
    | true =>
      have e : ne2 (a, c) (d, f) = [(a, c)] := by simp [ne2, h1, h2]
      rw [e]
      obtain rfl : d = f := by simpa using h2
      refine (del_ne a c d h1 b w h).mono ?_
      rintro e w' ⟨rfl, hr, hg⟩
      refine ⟨_, rfl, hr, by simp, ⟨by simp, by simp, hr.lt, fun j hj => ?_⟩, hg⟩
      match j, hj with
      | 0, _ => exact ⟨hr.cell 0, hr.cell 1⟩
      | j + 1, hj => exact absurd hj (by show ¬ j + 1 < 1; omega)
  | true =>
    obtain rfl : a = c := by simpa using h1
    cases h2 : (d == f) with
    | false =>
      have e : ne2 (a, a) (d, f) = [(d, f)] := by simp [ne2, h2]
      rw [e]
      refine (del_en a d f h2 b w h).mono ?_
      rintro e w' ⟨rfl, hr, hg⟩
      refine ⟨_, rfl, hr, by simp, ⟨by simp, by simp, hr.lt, fun j hj => ?_⟩, hg⟩
      match j, hj with
      | 0, _ => exact ⟨hr.cell 0, hr.cell 1⟩
      | j + 1, hj => exact absurd hj (by show ¬ j + 1 < 1; omega)
    | true =>
      have e : ne2 (a, a) (d, f) = [] := by simp [ne2, h2]
      rw [e]
      obtain rfl : d = f := by simpa using h2
      refine (del_ee a d b w h).mono ?_
      rintro e w' ⟨rfl, hr, hg⟩
      exact ⟨_, rfl, hr, by simp, ⟨by simp, by simp, hr.lt, fun j hj => absurd hj (Nat.not_lt_zero _)⟩, hg⟩
end Go.Proofs.Ytcmibcmndiplbab
