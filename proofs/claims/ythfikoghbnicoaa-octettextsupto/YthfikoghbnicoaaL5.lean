/- The walk of OctetTexts. -/
import Derived.Test.YthfikoghbnicoaaW11
import Derived.Test.YthfikoghbnicoaaPure2
namespace Go.Proofs.Ythfikoghbnicoaa
open Go.RowKit

/-- TakeText of Text, whatever stands behind. -/
theorem tkText_back (ps r : List Int) (most : Int) (hl : ps.length ≤ 9007199254740991) (h : (ps.length : Int) ≤ most) : tkText (numB ps.length ++ ps ++ r) 0 most = (ps, ((numB ps.length).length : Int) + ps.length, 0) := by
  have e := tkNum_numB [] (ps ++ r) ps.length hl
  simp only [List.nil_append, List.length_nil] at e
  have e' : tkNum (numB ps.length ++ ps ++ r) 0 = ((ps.length : Int), ((numB ps.length).length : Int), 0) := by
    rw [List.append_assoc]
    simpa using e
  unfold tkText
  rw [e']
  simp only [ne_eq, not_true_eq_false, if_false]
  rw [if_neg (by omega), if_neg (by simp; omega)]
  simp

set_option maxHeartbeats 2000000 in
set_option maxRecDepth 1000000 in
theorem walk_octetTexts (v : Value) (ps : List Int) (most : Int) (u : Value) (bs : List Int) (i : Int) (w : World) (hp : Bs w v ps) (byp : ∀ x ∈ ps, 0 ≤ x ∧ x < 256) (lp : ps.length ≤ 1048576) (_w1 : (Lit.int .i64 most).wf = true)
    (hb : Bs w u bs) (byb : ∀ x ∈ bs, 0 ≤ x ∧ x < 256) (lb : bs.length ≤ 1048576) (_w2 : (Lit.int .i64 i).wf = true) :
    Calls Try.prog 7 #[v, .int .i64 most, u, .int .i64 i] w fun e w' => e = .returned (.bool true) ∧ Below w.heap.size w w' := by
  have hp0 : Bs w v ps := hp
  obtain ⟨ts, r, h1, h2, hcase⟩ := text_any ps most (by omega)
  have H1 : Hid _ := h1
  have H2 : Hid _ := h2
  have HC : Hid _ := hcase
  clear h1 h2 hcase
  go_enter Try.func7, Try.ntmps7
  go_wp2_with fail
  refine Calls.mono (H1.out v w hp) ?_
  rintro e w1 ⟨v1, rfl, hown1, hb1⟩
  go_wp2_with fail
  refine Calls.mono (H2.out v w1 (hp.below hb1)) ?_
  rintro e w2 ⟨v2, rfl, hown2, hb2⟩
  have bw2 : Below w.heap.size w w2 := hb1.trans (hb2.mono hb1.size)
  go_wp2_with fail
  refine (takeText_any u bs i most w2 (hb.below bw2) byb (by omega)).mono ?_
  rintro e w3 ⟨v3, rfl, hown3, hb3⟩
  have bw3 : Below w.heap.size w w3 := bw2.trans (hb3.mono bw2.size)
  go_wp2_with fail
  refine (rtakeText_any u bs i most w3 (hb.below bw3) byb (by omega)).mono ?_
  rintro e w4 ⟨v4, rfl, hown4, hb4⟩
  have bw4 : Below w.heap.size w w4 := bw3.trans (hb4.mono bw3.size)
  have hb34 := hb3.trans (hb4.mono hb3.size)
  have hb24 := hb2.trans (hb34.mono hb2.size)
  have ho1 : OwnB w4 w.heap.size 5 v1 ts := hown1.below hb24
  have s1 := run_str Try.bt ho1.bs 9 Try.underlying9
  have s2 := run_str Try.bt (hown2.bs.below hb34) 9 Try.underlying9
  have s3 := run_str Try.bt (hown3.bs.below hb4) 9 Try.underlying9
  have s4 := run_str Try.bt hown4.bs 9 Try.underlying9
  have hbw := hb.below bw4
  clear hown1 hown2 hown3 hown4 hb1 hb2 hb3 hb4 hb34 hb24 bw2 bw3 hp hb H1 H2
  generalize (tkText bs i most) = T at s3 s4 ⊢
  rcases HC.out with ⟨rfl, rfl⟩ | ⟨rfl, hmost, rfl⟩
  · go_wp2_with fail
    refine (live_any w4).mono ?_
    rintro e w5 ⟨rfl, hb5⟩
    go_wp2
    go_ret
    exact ⟨rfl, bw4.trans (hb5.mono bw4.size)⟩
  · have hn8 := numB_len8 ps.length (by omega)
    have hsz := bw4.size
    have Hby : ∀ x ∈ numB ps.length ++ ps ++ bs, 0 ≤ x ∧ x < 256 := by
      intro x hx
      simp only [List.mem_append] at hx
      rcases hx with (hx | hx) | hx
      · exact numB_byte _ x hx
      · exact byp x hx
      · exact byb x hx
    have Hback := tkText_back ps bs most (by omega) hmost
    have HB : Hid _ := Hback
    have HY : Hid _ := Hby
    clear Hback Hby
    go_wp2_with (at_builtin; refine wp_appS (ys := bs) (xs := numB ps.length ++ ps) Try.bt rfl (.tmp 81) (.tmp 82) rfl rfl ho1 rfl hbw (by rw [List.length_append]; omega) hsz ?_)
    intro v5 w5 hown5 hb5
    have bw5 := bw4.trans hb5
    have hown5' : OwnB w5 w.heap.size 5 v5 (numB ps.length ++ ps ++ bs) := by simpa using hown5
    clear hown5 s1 s2 s3 s4
    go_wp2_with fail
    refine (takeText_any v5 _ 0 most w5 hown5'.bs HY.out (by rw [List.length_append, List.length_append]; omega)).mono ?_
    rintro e w6 ⟨v6, rfl, hown6, hb6⟩
    rw [HB.out] at hown6 ⊢
    have bw6 := bw5.trans (hb6.mono bw5.size)
    go_wp2_with fail
    refine (live_any w6).mono ?_
    rintro e w7 ⟨rfl, hb7⟩
    have bw7 := bw6.trans (hb7.mono bw6.size)
    have t1 := run_str Try.bt (hown6.bs.below hb7) 9 Try.underlying9
    have t2 := run_str Try.bt (hp0.below bw7) 9 Try.underlying9
    clear hown6 hb5 hb6 hb7 hown5' HB HY
    go_wp2
    go_ret
    exact ⟨by simp, bw7⟩
end Go.Proofs.Ythfikoghbnicoaa
