/- What must be whatever is asked: live. -/
import Derived.Test.YthohpbppfihoiaaX7
namespace Go.Proofs.Ythohpbppfihoiaa
open Go.RowKit Go.Lib

theorem tkN_live : tkN [3, 1, 97, 1] = (⟨3, { data := #[97] }, 1, 0, [], [], []⟩, 0) := by kernel_rfl
theorem chk_live : chk 3 { data := #[97] } 1 0 [] [] 0 = 0 := by kernel_rfl
theorem pB_live : pB 3 { data := #[97] } 1 0 [] [] [] = [3, 1, 97, 1] := by
  have e : pB 3 { data := #[97] } (1 : Nat) (0 : Nat) [] [] [] = Oct.numB 3 ++ fB { data := #[97] } 1 := by simp [pB, nmd]
  refine e.trans ?_
  have h3 : Oct.numB 3 = [3] := Oct.numB_small 3 (by decide)
  have h1 : Oct.numB 1 = [1] := Oct.numB_small 1 (by decide)
  have hs : ({ data := #[97] } : ByteArray).size = 1 := rfl
  have hb : strBs { data := #[97] } = [97] := rfl
  unfold fB
  rw [hs, hb, h3, h1]
  rfl
theorem str_live : strOfNums [3, 1, 97, 1] = { data := #[3, 1, 97, 1] } := rfl
section
variable {w : World}
set_option maxHeartbeats 8000000 in
set_option maxRecDepth 100000 in
theorem live7 : Calls Try.prog 7 #[] w fun e w' => e = .returned (.bool true) ∧ Below w.heap.size w w' := by
  have tp := put_ok (w := w) 3 { data := #[97] } 1 0 none none none 0 0 0 0 0 0 [] [] [] ((OwnE.nil he 2 46 w 0).rd h0) rfl ((OwnE.nil pe 33 49 w 0).rd p0) rfl (Oct.Bs.nil w) rfl (fun p hp => by cases hp) chk_live
  rw [pB_live] at tp
  obtain ⟨L, HL⟩ : ∃ L : List Int, Hid ([3, 1, 97, 1] = L) := ⟨_, ⟨rfl⟩⟩
  have HLb : Hid (∀ x ∈ L, 0 ≤ x ∧ x < 256) := ⟨by rw [← HL.out]; decide⟩
  have HLl : Hid (L.length ≤ 140737488355328) := ⟨by rw [← HL.out]; decide⟩
  have HLs : Hid (strOfNums L = { data := #[3, 1, 97, 1] }) := ⟨by rw [← HL.out]; rfl⟩
  have tt := fun (W : World) (v : Value) (h : Oct.Bs W v L) => take12 (w := W) v L h HLb.out HLl.out
  have HTk : Hid (tkN L = (⟨3, { data := #[97] }, 1, 0, [], [], []⟩, 0)) := ⟨by rw [← HL.out]; exact tkN_live⟩
  rw [HTk.out] at tt
  rw [HL.out] at tp
  go_enter Try.func7, Try.ntmps7
  go_wp2_with fail
  refine tp.mono ?_
  rintro e w1 ⟨v1, rfl, hO1, hB1⟩
  have HO1 := Hid.mk hO1
  have HB1 := Hid.mk hB1
  obtain ⟨a1, c1, e1, _⟩ := OwnY.shape hO1
  subst e1
  clear tp hO1 hB1
  go_wp2_with fail
  refine (tt w1 _ (Oct.OwnB.bs HO1.out)).mono ?_
  rintro e w2 ⟨ha, hc, pa, pc, ba, bc, rfl, _, _, _, hB2⟩
  have HB2 := Hid.mk hB2
  clear tt hB2
  simp only [List.length_nil]
  obtain ⟨N, HN⟩ : ∃ x, Hid (na 3 { data := #[97] } 1 0 (.slice ha 0 hc) (.slice pa 0 pc) (.slice ba 0 bc) = x) := ⟨_, ⟨rfl⟩⟩
  have HNs : Hid ((Try.prog.info? 27).map (·.size) = some N.size ∧ N.all (·.oneCell') = true ∧ zn.size = N.size) := ⟨by rw [← HN.out]; exact ⟨info27, na_one _ _ _ _ _ _ _ _ _ _ _ _ _, rfl⟩⟩
  obtain ⟨r, Hr⟩ : ∃ x, Hid (w2.heap.size = x) := ⟨_, ⟨rfl⟩⟩
  obtain ⟨w3, Hw3⟩ : ∃ x, Hid ((w2.alloc (.cells zn 27)).setRow r N = x) := ⟨_, ⟨rfl⟩⟩
  have HB3 : Hid (Below w2.heap.size w2 w3) := ⟨by rw [← Hw3.out, ← Hr.out]; exact below_setRow ((Below.refl _ w2).alloc (Nat.le_refl _) _) (Nat.le_refl _) _⟩
  have Hz3 : Hid (w3.heap[r]? = some (.cells N 27 (0, 0))) := ⟨by rw [← Hw3.out, ← Hr.out]; exact setRow_heap _ _ zn _ 27 (0, 0) (heap_alloc_new w2 _)⟩
  have HB13 : Hid (Below w1.heap.size w1 w3) := ⟨HB2.out.trans (HB3.out.mono HB2.out.size)⟩
  have hcv : (convert 25 9 (.slice a1 L.length c1)).run Try.prog w3 = .ok (.string { data := #[3, 1, 97, 1] }) w3 := by rw [← HLs.out]; exact bs_str ((Oct.OwnB.bs HO1.out).below HB13.out)
  have k1 : w3.cell? ⟨r, 1, none⟩ = some (.string { data := #[97] }) := by rw [cell_of_row _ _ _ _ _ _ Hz3.out, ← HN.out]; rfl
  have k2 : w3.cell? ⟨r, 2, none⟩ = some (.int .i64 1) := by rw [cell_of_row _ _ _ _ _ _ Hz3.out, ← HN.out]; rfl
  rw [HN.out]
  go_upto_region 3 with (first
    | (refine wp_newZ zero27 rfl rfl ?_; rw [Hr.out])
    | (refine wpList_store_row rfl 27 (.tmp 3) (.tmp 13) rfl r N rfl rfl 27 zn (by rw [← Hr.out]; exact heap_alloc_new w2 _) HNs.out.1 HNs.out.2.2 HNs.out.2.1 ?_; rw [Hw3.out]))
  go_wp2_with fail
  go_ret
  exact ⟨rfl, HB1.out.trans (HB13.out.mono HB1.out.size)⟩
end
end Go.Proofs.Ythohpbppfihoiaa
