/- The walk of SqueezePuts. -/
import Derived.Test.YtoneepoaodoijaaW6
import Derived.Deep.DrawnRows
import Derived.Deep.RegionHeld3
namespace Go.Proofs.Ytoneepoaodoijaa
open Go.RowKit Go.Lib Go.Shelf Oct

set_option maxHeartbeats 4000000 in
set_option maxRecDepth 100000 in
theorem walk_squeezePuts (v : Value) (bs : List Int) (W : World) (hb : Bs W v bs) (by0 : ∀ x ∈ bs, 0 ≤ x ∧ x < 256) (_l0 : bs.length ≤ 140737488351232) :
    Calls Try.prog 3 #[v] W fun e w' => e = .returned (.bool true) ∧ Below W.heap.size W w' := by
  obtain ⟨w1, Hw1⟩ : ∃ x, Hid (W.alloc (.cells #[] 5) = x) := ⟨_, ⟨rfl⟩⟩
  have HB1 : Hid (Below W.heap.size W w1) := ⟨by rw [← Hw1.out]; exact (Below.refl _ _).alloc (Nat.le_refl _) _⟩
  have HO1 : Hid (OwnY w1 W.heap.size (.slice (some ⟨W.heap.size, 0, none⟩) 0 0) []) := ⟨by rw [← Hw1.out]; exact owny_none W⟩
  have HRb := Hid.mk (bs_rdy hb)
  have HRl : Hid (∀ A, Below W.heap.size W A → RdY A v bs) := ⟨fun A hA => HRb.out.stay (fun _ k _ o ho => (hA.block k (Array.getElem?_eq_some_iff.1 ho).1).trans ho)⟩
  have HBy : Hid (By (bs.take 1500)) := ⟨fun x hx => by0 x (List.mem_of_mem_take hx)⟩
  obtain ⟨a, cap, rfl, _⟩ := (bs_rdy hb).shape
  obtain ⟨n, Hn⟩ : ∃ n, Hid (bs.length = n) := ⟨_, ⟨rfl⟩⟩
  rw [Hn.out] at HRb HRl ⊢
  have HL : Hid ((bs.take 1500).length ≤ 1500) := ⟨by rw [List.length_take]; omega⟩
  have t8 := small8 (w := w1) (.slice a n cap) bs (HRl.out w1 HB1.out)
  obtain ⟨S, HS⟩ : ∃ S, Hid (bs.take 1500 = S) := ⟨_, ⟨rfl⟩⟩
  rw [HS.out] at HBy HL t8
  clear hb by0
  go_enter Try.func3, Try.ntmps3
  go_wp2_with fail
  rw [Hw1.out]
  refine t8.mono ?_
  rintro e w1' ⟨sa, sn, sc, rfl, hS1, rfl⟩
  have hl1 : ([] : List Int).length + S.length ≤ 1000000000000 := by have := HL.out; simp; omega
  have hs1 := HB1.out.size
  clear t8
  go_wp2_with (refine wp_appY rfl (.tmp 8) (.tmp 10) rfl rfl HO1.out rfl hS1 hl1 hs1 ?_; intro v3 w3 hO3 hG3 hV3; rw [List.nil_append] at hO3; have HO3 := Hid.mk hO3; have HG3 : Hid (Chg (ob (.slice (some ⟨W.heap.size, 0, none⟩) 0 0)) w1 w3) := ⟨hG3⟩; clear hO3 hG3 hV3; obtain ⟨a3, c3, e3, _⟩ := HO3.out.shape; subst e3)
  have HB3 : Hid (Below W.heap.size W w3) := ⟨HB1.out.trans (HG3.out.below hs1 (fun g hg => (World.ownsRow.lt HO1.out g (mem_ob.1 hg)).1))⟩
  obtain ⟨k, Hk⟩ : ∃ k, Hid (S.length = k) := ⟨_, ⟨rfl⟩⟩
  have t9 := put9 (w := w3) (.slice a3 S.length c3) S HO3.out.rd HBy.out
  rw [Hk.out] at t9 HO3 ⊢
  clear hl1 hs1 hS1
  refine t9.mono ?_
  rintro e w4 ⟨⟨a4, n4, c4, z4, L, rfl, hO4, hL⟩, hb4⟩
  obtain ⟨hLe, rfl⟩ : L = sqz S ∧ z4 = 0 := by
    rcases hL with ⟨h, _⟩ | ⟨_, h1, h2⟩
    · have := HL.out; omega
    · exact ⟨h1, h2⟩
  subst hLe
  have HO4 := Hid.mk hO4
  have HO3' : Hid (OwnY w4 W.heap.size (.slice a3 k c3) S) := ⟨HO3.out.kc (n := 0) (Kg.below hb4)⟩
  have HB4 : Hid (Below W.heap.size W w4) := ⟨HB3.out.trans (hb4.mono HB3.out.size)⟩
  have t8 := small8 (w := w4) (.slice a n cap) bs (HRl.out w4 HB4.out)
  rw [HS.out] at t8
  clear t9 hO4 hL hb4
  go_wp2_with fail
  refine t8.mono ?_
  rintro e w4' ⟨sa2, sn2, sc2, rfl, hS2, rfl⟩
  have t10 := rput10 (w := w4) (.slice sa2 sn2 sc2) S hS2 HBy.out
  clear t8 hS2
  go_wp2_with fail
  refine t10.mono ?_
  rintro e w5 ⟨⟨a5, n5, c5, z5, L5, rfl, hO5, hL5⟩, hb5⟩
  obtain ⟨hLe, rfl⟩ : L5 = sqz S ∧ z5 = 0 := by
    rcases hL5 with ⟨h, _⟩ | ⟨_, h1, h2⟩
    · have := HL.out; omega
    · exact ⟨h1, h2⟩
  subst hLe
  have HB5 : Hid (Below W.heap.size W w5) := ⟨HB4.out.trans (hb5.mono HB4.out.size)⟩
  have HX : Hid (∀ A, Below w5.heap.size w5 A → (convert 22 9 (.slice a4 n4 c4)).run Try.prog A = .ok (.string (strOfNums (sqz S))) A ∧ (convert 22 9 (.slice a5 n5 c5)).run Try.prog A = .ok (.string (strOfNums (sqz S))) A ∧ (convert 22 9 (.slice a3 k c3)).run Try.prog A = .ok (.string (strOfNums S)) A) := ⟨fun A hA => by
    have h45 : Kc 0 w4 A := (Kg.below hb5).trans (Kg.below hA)
    exact ⟨run_str Try.bt (rdy_bs (HO4.out.kc h45).rd) 9 Try.underlying9, run_str Try.bt (rdy_bs (hO5.kc (n := 0) (Kg.below hA)).rd) 9 Try.underlying9, run_str Try.bt (rdy_bs (HO3'.out.kc h45).rd) 9 Try.underlying9⟩⟩
  have t5 := live11 (w := w5.drew)
  have HD : Hid (Below w5.heap.size w5 w5.drew) := ⟨(Below.refl _ _).drew⟩
  obtain ⟨T, HT⟩ : ∃ T, Hid (strOfNums (sqz S) = T) := ⟨_, ⟨rfl⟩⟩
  obtain ⟨U, HU⟩ : ∃ T, Hid (strOfNums S = T) := ⟨_, ⟨rfl⟩⟩
  rw [HT.out, HU.out] at HX
  clear t10 hO5 hL5 hb5
  go_wp2_with fail
  refine wp_region_held_drew (S := fun A => Below w5.heap.size w5 A) (by kernel_rfl) HD.out (fun hS => ?_)
  refine wpAnyH_ready (rs := [0]) (by kernel_rfl) (by simp) (AllReadyH.cons rfl (fun Kq hK => ?_) AllReadyH.nil)
  go_simp
  refine t5.mono ?_
  rintro e w6 ⟨rfl, hb6⟩
  have hS6 : Below w5.heap.size w5 w6 := hS.trans hb6
  refine hK.out _ _ hS6 (fun hS => ?_)
  clear hK t5 hb6
  refine wpAnyH_take (i := 1) (v := .bool true) rfl (by kernel_rfl) (by kernel_rfl) (by kernel_rfl) (fun _ _ _ h => h) (Or.inl ⟨by kernel_rfl, fun wx hx => by go_simp⟩) hS ?_
  refine wpAnyH_take (i := 2) (v := .slice a4 n4 c4) rfl (by kernel_rfl) (by kernel_rfl) (by kernel_rfl) (fun _ _ _ h => h) (Or.inl ⟨by kernel_rfl, fun wx hx => by go_simp⟩) hS ?_
  refine wpAnyH_take (i := 3) (v := .string T) rfl (by kernel_rfl) (by kernel_rfl) (by kernel_rfl) (fun _ _ _ h => h) (Or.inl ⟨by kernel_rfl, fun wx hx => by obtain ⟨k1, k2, k3⟩ := HX.out wx hx; go_simp⟩) hS ?_
  refine wpAnyH_take (i := 4) (v := .slice a5 n5 c5) rfl (by kernel_rfl) (by kernel_rfl) (by kernel_rfl) (fun _ _ _ h => h) (Or.inl ⟨by kernel_rfl, fun wx hx => by go_simp⟩) hS ?_
  refine wpAnyH_take (i := 5) (v := .string T) rfl (by kernel_rfl) (by kernel_rfl) (by kernel_rfl) (fun _ _ _ h => h) (Or.inl ⟨by kernel_rfl, fun wx hx => by obtain ⟨k1, k2, k3⟩ := HX.out wx hx; go_simp⟩) hS ?_
  refine wpAnyH_take (i := 6) (v := .bool true) rfl (by kernel_rfl) (by kernel_rfl) (by kernel_rfl) (fun _ _ _ h => h) (Or.inl ⟨by kernel_rfl, fun wx hx => by go_simp⟩) hS ?_
  refine wpAnyH_take (i := 7) (v := .bool true) rfl (by kernel_rfl) (by kernel_rfl) (by kernel_rfl) (fun _ _ _ h => h) (Or.inl ⟨by kernel_rfl, fun wx hx => by go_simp⟩) hS ?_
  refine wpAnyH_take (i := 8) (v := .bool true) rfl (by kernel_rfl) (by kernel_rfl) (by kernel_rfl) (fun _ _ _ h => h) (Or.inl ⟨by kernel_rfl, fun wx hx => by go_simp⟩) hS ?_
  refine wpAnyH_take (i := 9) (v := .int .i64 0) rfl (by kernel_rfl) (by kernel_rfl) (by kernel_rfl) (fun _ _ _ h => h) (Or.inl ⟨by kernel_rfl, fun wx hx => by go_simp⟩) hS ?_
  refine wpAnyH_take (i := 10) (v := .int .i64 0) rfl (by kernel_rfl) (by kernel_rfl) (by kernel_rfl) (fun _ _ _ h => h) (Or.inl ⟨by kernel_rfl, fun wx hx => by go_simp⟩) hS ?_
  refine wpAnyH_take (i := 11) (v := .bool true) rfl (by kernel_rfl) (by kernel_rfl) (by kernel_rfl) (fun _ _ _ h => h) (Or.inl ⟨by kernel_rfl, fun wx hx => by go_simp⟩) hS ?_
  refine wpAnyH_take (i := 12) (v := .bool true) rfl (by kernel_rfl) (by kernel_rfl) (by kernel_rfl) (fun _ _ _ h => h) (Or.inl ⟨by kernel_rfl, fun wx hx => by go_simp⟩) hS ?_
  refine wpAnyH_take (i := 13) (v := .bool true) rfl (by kernel_rfl) (by kernel_rfl) (by kernel_rfl) (fun _ _ _ h => h) (Or.inl ⟨by kernel_rfl, fun wx hx => by go_simp⟩) hS ?_
  refine wpAnyH_take (i := 14) (v := .slice a3 k c3) rfl (by kernel_rfl) (by kernel_rfl) (by kernel_rfl) (fun _ _ _ h => h) (Or.inl ⟨by kernel_rfl, fun wx hx => by go_simp⟩) hS ?_
  refine wpAnyH_take (i := 15) (v := .string U) rfl (by kernel_rfl) (by kernel_rfl) (by kernel_rfl) (fun _ _ _ h => h) (Or.inl ⟨by kernel_rfl, fun wx hx => by obtain ⟨k1, k2, k3⟩ := HX.out wx hx; go_simp⟩) hS ?_
  refine wpAnyH_take (i := 16) (v := .slice a n cap) rfl (by kernel_rfl) (by kernel_rfl) (by kernel_rfl) (fun _ _ _ h => h) (Or.inl ⟨by kernel_rfl, fun wx hx => by go_simp⟩) hS ?_
  have t8 := small8 (w := w6) (.slice a n cap) bs (HRl.out w6 (HB5.out.trans (hS6.mono HB5.out.size)))
  rw [HS.out] at t8
  refine wpAnyH_ready (rs := [17]) (by kernel_rfl) (by simp) (AllReadyH.cons rfl (fun Kq hK => ?_) AllReadyH.nil)
  go_simp
  refine t8.mono ?_
  rintro e w6' ⟨sa3, sn3, sc3, rfl, hS3, rfl⟩
  refine hK.out _ _ hS6 (fun hS => ?_)
  clear hK t8
  have s3 := run_str Try.bt (rdy_bs hS3) 9 Try.underlying9
  rw [HU.out] at s3
  refine wpAnyH_ready (rs := [18]) (by kernel_rfl) (by simp) (AllReadyH.cons rfl (fun Kq hK => ?_) AllReadyH.nil)
  go_simp
  refine hK.out _ _ hS6 (fun hS => ?_)
  clear hK
  refine wpAnyH_take (i := 19) (v := .bool true) rfl (by kernel_rfl) (by kernel_rfl) (by kernel_rfl) (fun _ _ _ h => h) (Or.inl ⟨by kernel_rfl, fun wx hx => by go_simp⟩) hS ?_
  refine wpAnyH_take (i := 20) (v := .bool true) rfl (by kernel_rfl) (by kernel_rfl) (by kernel_rfl) (fun _ _ _ h => h) (Or.inl ⟨by kernel_rfl, fun wx hx => by go_simp⟩) hS ?_
  refine wpAnyH_take (i := 21) (v := .bool true) rfl (by kernel_rfl) (by kernel_rfl) (by kernel_rfl) (fun _ _ _ h => h) (Or.inl ⟨by kernel_rfl, fun wx hx => by go_simp⟩) hS ?_
  refine wpAnyH_done (by kernel_rfl) ?_ _
  go_simp
  go_wp2_with fail
  go_ret
  exact ⟨rfl, HB5.out.trans (hS6.mono HB5.out.size)⟩
end Go.Proofs.Ytoneepoaodoijaa
