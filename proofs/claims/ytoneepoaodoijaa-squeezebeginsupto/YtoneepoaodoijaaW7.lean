/- The walk of SqueezeBegins. -/
import Derived.Test.YtoneepoaodoijaaW4
import Derived.Test.YtoneepoaodoijaaW6
import Derived.Test.YtoneepoaodoijaaZ4
namespace Go.Proofs.Ytoneepoaodoijaa
open Go.RowKit Go.Lib Go.Shelf Oct

set_option maxHeartbeats 4000000 in
set_option maxRecDepth 100000 in
theorem walk_squeezeBegins (v : Value) (bs : List Int) (u : Value) (cs : List Int) (i : Int) (W : World) (hb : Bs W v bs) (by0 : ∀ x ∈ bs, 0 ≤ x ∧ x < 256) (l0 : bs.length ≤ 1048576) (hu : Bs W u cs) (by1 : ∀ x ∈ cs, 0 ≤ x ∧ x < 256) (l1 : cs.length ≤ 1048576) (w2 : (Lit.int .i64 i).wf = true) :
    Calls Try.prog 7 #[v, u, .int .i64 i] W fun e w' => e = .returned (.bool true) ∧ Below W.heap.size W w' := by
  have hi := wf_i64 w2
  have t1 := take12 (w := W) v bs i (bs_rdy hb) by0 hi
  have HRb := Hid.mk (bs_rdy hb)
  have HRu := Hid.mk (bs_rdy hu)
  have HBy : Hid (By bs) := ⟨by0⟩
  have HByc : Hid (By (bs ++ cs)) := ⟨By.app by0 by1⟩
  have Hl0 := Hid.mk l0
  have Hl1 := Hid.mk l1
  obtain ⟨a, cap, rfl, _⟩ := (bs_rdy hb).shape
  obtain ⟨a', cap', rfl, _⟩ := (bs_rdy hu).shape
  obtain ⟨n, Hn⟩ : ∃ n, Hid (bs.length = n) := ⟨_, ⟨rfl⟩⟩
  obtain ⟨n', Hn'⟩ : ∃ n, Hid (cs.length = n) := ⟨_, ⟨rfl⟩⟩
  rw [Hn.out] at HRb t1 ⊢
  rw [Hn'.out] at HRu ⊢
  clear hb hu by0 by1 l0 l1 w2
  go_enter Try.func7, Try.ntmps7
  go_wp2_with fail
  refine t1.mono ?_
  rintro e w1 ⟨⟨a1, n1, c1, z1, p1, rfl, hT1, hO1⟩, hb1⟩
  have HT1 := Hid.mk hT1
  have HO1 := Hid.mk hO1
  have HB1 := Hid.mk hb1
  obtain ⟨w2, Hw2⟩ : ∃ x, Hid (w1.alloc (.cells #[] 5) = x) := ⟨_, ⟨rfl⟩⟩
  have HB2 : Hid (Below w1.heap.size w1 w2) := ⟨by rw [← Hw2.out]; exact (Below.refl _ _).alloc (Nat.le_refl _) _⟩
  have HO2 : Hid (OwnY w2 w1.heap.size (.slice (some ⟨w1.heap.size, 0, none⟩) 0 0) []) := ⟨by rw [← Hw2.out]; exact owny_none w1⟩
  have hRb2 : RdY w2 (.slice a n cap) bs := HRb.out.stay (fun _ k _ o ho => (HB2.out.block k (by have := (Array.getElem?_eq_some_iff.1 ho).1; have := hb1.size; omega)).trans ((hb1.block k (Array.getElem?_eq_some_iff.1 ho).1).trans ho))
  have hl2 : ([] : List Int).length + bs.length ≤ 1000000000000 := by have := Hl0.out; simp; omega
  have hs2 := HB2.out.size
  clear t1 hT1 hO1 hb1
  go_wp2_with (first | (rw [Hw2.out]; refine wp_appY rfl (.tmp 18) (.tmp 19) rfl rfl HO2.out rfl hRb2 hl2 hs2 ?_; intro v3 w3 hO3 hG3 hV3; rw [List.nil_append] at hO3; have HO3 := Hid.mk hO3; have HG3 : Hid (Chg (ob (.slice (some ⟨w1.heap.size, 0, none⟩) 0 0)) w2 w3) := ⟨hG3⟩; clear hO3 hG3 hV3; obtain ⟨a3, c3, e3, _⟩ := HO3.out.shape; rw [Hn.out] at e3; subst e3; have HB3 : Hid (Below w1.heap.size w1 w3) := ⟨HB2.out.trans (HG3.out.below hs2 (fun g hg => (World.ownsRow.lt HO2.out g (mem_ob.1 hg)).1))⟩; have hRu3 : RdY w3 (.slice a' n' cap') cs := HRu.out.stay (fun _ k _ o ho => (HB3.out.block k (by have := (Array.getElem?_eq_some_iff.1 ho).1; have := HB1.out.size; omega)).trans ((HB1.out.block k (Array.getElem?_eq_some_iff.1 ho).1).trans ho)); have hl3 : bs.length + cs.length ≤ 1000000000000 := (by have := Hl0.out; have := Hl1.out; omega); have hs3 := HB3.out.size) | (refine wp_appY rfl (.tmp 20) (.tmp 21) rfl rfl HO3.out rfl hRu3 hl3 hs3 ?_; intro v4 w4 hO4 hG4 hV4; have HO4 := Hid.mk hO4; have HG4 : Hid (Chg (ob (.slice a3 n c3)) w3 w4) := ⟨hG4⟩; clear hO4 hG4 hV4; obtain ⟨a4, c4, e4, _⟩ := HO4.out.shape; obtain ⟨n4, Hn4⟩ : ∃ k, Hid ((bs ++ cs).length = k) := ⟨_, ⟨rfl⟩⟩; rw [Hn4.out] at e4; subst e4))
  have HB14 : Hid (Below w1.heap.size w1 w4) := ⟨HB3.out.trans (HG4.out.below hs3 (fun g hg => (World.ownsRow.lt HO3.out g (mem_ob.1 hg)).1))⟩
  have HB4 : Hid (Below W.heap.size W w4) := ⟨HB1.out.trans (HB14.out.mono HB1.out.size)⟩
  have HO1' : Hid (OwnY w4 W.heap.size (.slice a1 n1 c1) p1) := ⟨HO1.out.kc (n := 0) (Kg.below HB14.out)⟩
  have t2 := take12 (w := w4) (.slice a4 n4 c4) (bs ++ cs) i HO4.out.rd HByc.out hi
  have hn1 : n1 = p1.length := by obtain ⟨_, _, e, _⟩ := HO1.out.shape; simp only [Value.slice.injEq] at e; exact e.2.1
  have Hn1 := Hid.mk hn1
  clear hRb2 hl2 hs2 hRu3 hl3 hs3 hn1
  go_wp2_with fail
  refine t2.mono ?_
  rintro e w5 ⟨⟨a5, n5, c5, z5, p5, rfl, hT5, hO5⟩, hb5⟩
  have HT5 := Hid.mk hT5
  have HO5 := Hid.mk hO5
  have HO1w : Hid (OwnY w5 W.heap.size (.slice a1 n1 c1) p1) := ⟨HO1'.out.kc (n := 0) (Kg.below hb5)⟩
  have HB5 : Hid (Below W.heap.size W w5) := ⟨HB4.out.trans (hb5.mono HB4.out.size)⟩
  obtain ⟨a5', c5', e5, hc5, _, _⟩ := hO5.shape
  simp only [Value.slice.injEq] at e5
  obtain ⟨-, hn5, hcc5⟩ := e5
  clear t2 hT5 hO5 hb5
  by_cases h1 : z1 = 0
  · subst h1
    by_cases h5 : z5 = 0
    · subst h5
      obtain ⟨s, hs⟩ := TkR.pre HT1.out HT5.out
      have hle : n1 ≤ n5 := by rw [hn5, hs, List.length_append, Hn1.out]; omega
      have hlez : (n1 : Int) ≤ (n5 : Int) := by omega
      have hlc : n1 ≤ c5 := by rw [← hcc5] at hc5; omega
      have hlcz : (n1 : Int) ≤ (c5 : Int) := by omega
      have HX : Hid (∀ A, Below w5.heap.size w5 A → (convert 22 9 (.slice a1 n1 c1)).run Try.prog A = .ok (.string (strOfNums p1)) A ∧ (convert 22 9 (.slice a5 n1 c5)).run Try.prog A = .ok (.string (strOfNums p1)) A) := ⟨fun A hA => by
        refine ⟨run_str Try.bt (rdy_bs (HO1w.out.kc (n := 0) (Kg.below hA)).rd) 9 Try.underlying9, ?_⟩
        have hr := rdy_take (HO5.out.kc (n := 0) (Kg.below hA)).rd n1 hle
        have e : p5.take n1 = p1 := by rw [hs, Hn1.out, List.take_left]
        rw [e] at hr
        exact run_str Try.bt (rdy_bs hr) 9 Try.underlying9⟩
      have t5 := live11 (w := w5.drew)
      have HD : Hid (Below w5.heap.size w5 w5.drew) := ⟨(Below.refl _ _).drew⟩
      clear hn5 hs hcc5
      go_wp2_with fail
      refine wp_region_held_drew (S := fun A => Below w5.heap.size w5 A) (by kernel_rfl) HD.out (fun hS => ?_)
      refine wpAnyH_ready (rs := [0]) (by kernel_rfl) (by simp) (AllReadyH.cons rfl (fun Kq hK => ?_) AllReadyH.nil)
      go_simp
      refine t5.mono ?_
      rintro e w6 ⟨rfl, hb6⟩
      have hS6 : Below w5.heap.size w5 w6 := hS.trans hb6
      refine hK.out _ _ hS6 (fun hS => ?_)
      clear hK t5 hb6
      refine wpAnyH_take (i := 1) (v := .bool true) rfl (by kernel_rfl) (by kernel_rfl) (by kernel_rfl) (fun _ _ _ h => h) (Or.inl ⟨by kernel_rfl, fun wx hx => by go_simp⟩) hS ?_
      refine wpAnyH_take (i := 2) (v := .slice a1 n1 c1) rfl (by kernel_rfl) (by kernel_rfl) (by kernel_rfl) (fun _ _ _ h => h) (Or.inl ⟨by kernel_rfl, fun wx hx => by go_simp⟩) hS ?_
      refine wpAnyH_take (i := 3) (v := .int .i64 (n1 : Int)) rfl (by kernel_rfl) (by kernel_rfl) (by kernel_rfl) (fun _ _ _ h => h) (Or.inl ⟨by kernel_rfl, fun wx hx => by go_simp⟩) hS ?_
      refine wpAnyH_take (i := 4) (v := .slice a5 n5 c5) rfl (by kernel_rfl) (by kernel_rfl) (by kernel_rfl) (fun _ _ _ h => h) (Or.inl ⟨by kernel_rfl, fun wx hx => by go_simp⟩) hS ?_
      refine wpAnyH_take (i := 5) (v := .int .i64 (n5 : Int)) rfl (by kernel_rfl) (by kernel_rfl) (by kernel_rfl) (fun _ _ _ h => h) (Or.inl ⟨by kernel_rfl, fun wx hx => by go_simp⟩) hS ?_
      refine wpAnyH_take (i := 6) (v := .bool true) rfl (by kernel_rfl) (by kernel_rfl) (by kernel_rfl) (fun _ _ _ h => h) (Or.inl ⟨by kernel_rfl, fun wx hx => by go_simp⟩) hS ?_
      refine wpAnyH_take (i := 7) (v := .bool true) rfl (by kernel_rfl) (by kernel_rfl) (by kernel_rfl) (fun _ _ _ h => h) (Or.inl ⟨by kernel_rfl, fun wx hx => by go_simp⟩) hS ?_
      refine wpAnyH_take (i := 8) (v := .bool true) rfl (by kernel_rfl) (by kernel_rfl) (by kernel_rfl) (fun _ _ _ h => h) (Or.inl ⟨by kernel_rfl, fun wx hx => by go_simp⟩) hS ?_
      refine wpAnyH_take (i := 9) (v := .slice a5 n5 c5) rfl (by kernel_rfl) (by kernel_rfl) (by kernel_rfl) (fun _ _ _ h => h) (Or.inl ⟨by kernel_rfl, fun wx hx => by go_simp⟩) hS ?_
      refine wpAnyH_take (i := 10) (v := .slice a1 n1 c1) rfl (by kernel_rfl) (by kernel_rfl) (by kernel_rfl) (fun _ _ _ h => h) (Or.inl ⟨by kernel_rfl, fun wx hx => by go_simp⟩) hS ?_
      refine wpAnyH_take (i := 11) (v := .int .i64 (n1 : Int)) rfl (by kernel_rfl) (by kernel_rfl) (by kernel_rfl) (fun _ _ _ h => h) (Or.inl ⟨by kernel_rfl, fun wx hx => by go_simp⟩) hS ?_
      refine wpAnyH_take (i := 12) (v := .slice a5 n1 c5) rfl (by kernel_rfl) (by kernel_rfl) (by kernel_rfl) (fun _ _ _ h => h) (Or.inl ⟨by kernel_rfl, fun wx hx => by go_simp⟩) hS ?_
      refine wpAnyH_take (i := 13) (v := .string (strOfNums p1)) rfl (by kernel_rfl) (by kernel_rfl) (by kernel_rfl) (fun _ _ _ h => h) (Or.inl ⟨by kernel_rfl, fun wx hx => by have k := (HX.out wx hx).2; go_simp⟩) hS ?_
      refine wpAnyH_take (i := 14) (v := .slice a1 n1 c1) rfl (by kernel_rfl) (by kernel_rfl) (by kernel_rfl) (fun _ _ _ h => h) (Or.inl ⟨by kernel_rfl, fun wx hx => by go_simp⟩) hS ?_
      refine wpAnyH_take (i := 15) (v := .string (strOfNums p1)) rfl (by kernel_rfl) (by kernel_rfl) (by kernel_rfl) (fun _ _ _ h => h) (Or.inl ⟨by kernel_rfl, fun wx hx => by have k := (HX.out wx hx).1; go_simp⟩) hS ?_
      refine wpAnyH_take (i := 16) (v := .bool true) rfl (by kernel_rfl) (by kernel_rfl) (by kernel_rfl) (fun _ _ _ h => h) (Or.inl ⟨by kernel_rfl, fun wx hx => by go_simp⟩) hS ?_
      refine wpAnyH_take (i := 17) (v := .bool true) rfl (by kernel_rfl) (by kernel_rfl) (by kernel_rfl) (fun _ _ _ h => h) (Or.inl ⟨by kernel_rfl, fun wx hx => by go_simp⟩) hS ?_
      refine wpAnyH_take (i := 18) (v := .bool true) rfl (by kernel_rfl) (by kernel_rfl) (by kernel_rfl) (fun _ _ _ h => h) (Or.inl ⟨by kernel_rfl, fun wx hx => by go_simp⟩) hS ?_
      refine wpAnyH_done (by kernel_rfl) ?_ _
      go_simp
      go_wp2_with fail
      go_ret
      exact ⟨rfl, HB5.out.trans (hS6.mono HB5.out.size)⟩
    · have hz5 : (z5 != 0) = true := by simpa using h5
      have t5 := live11 (w := w5)
      go_wp2_with fail
      refine t5.mono ?_
      rintro e w6 ⟨rfl, hb6⟩
      have HB6 : Hid (Below W.heap.size W w6) := ⟨HB5.out.trans (hb6.mono HB5.out.size)⟩
      clear t5 hb6
      go_wp2_with fail
      go_ret
      exact ⟨rfl, HB6.out⟩
  · have hz1 : (z1 != 0) = true := by simpa using h1
    have t5 := live11 (w := w5)
    go_wp2_with fail
    refine t5.mono ?_
    rintro e w6 ⟨rfl, hb6⟩
    have HB6 : Hid (Below W.heap.size W w6) := ⟨HB5.out.trans (hb6.mono HB5.out.size)⟩
    clear t5 hb6
    go_wp2_with fail
    go_ret
    exact ⟨rfl, HB6.out⟩
end Go.Proofs.Ytoneepoaodoijaa
