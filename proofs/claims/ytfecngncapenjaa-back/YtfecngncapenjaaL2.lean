/- The document's take: the least tree is looked for. -/
import Derived.Test.YtfecngncapenjaaL1
import Derived.Test.YtfecngncapenjaaIntsE
import Derived.Test.YtfecngncapenjaaC12
import Derived.Deep.MidRow
import Derived.BigRegion
import Derived.RegionTactic
namespace Go.Proofs.Ytfecngncapenjaa
open Go.RowKit Oct

def ltR (x y : RT) : Bool := decide (x.1 < y.1 ∨ x.1 = y.1 ∧ fst x < fst y)
theorem ltR_irr (x : RT) : ltR x x = false := by unfold ltR; exact decide_eq_false (by omega)
theorem ltR_as {x y : RT} (h : ltR x y = true) : ltR y x = false := by
  unfold ltR at *
  have := of_decide_eq_true h
  exact decide_eq_false (by omega)
theorem ltR_nt {x y z : RT} (h1 : ltR x y = false) (h2 : ltR y z = false) : ltR x z = false := by
  unfold ltR at *
  have a := of_decide_eq_false h1
  have b := of_decide_eq_false h2
  exact decide_eq_false (by omega)
theorem r0_len : r0.2.length = 256 := by unfold r0; exact List.length_replicate
theorem ra_one (s : RT) : (ra s).all (·.oneCell') = true := by
  unfold ra
  rw [List.all_toArray, List.all_eq_true]
  exact fe_one s
theorem eltR : Elt Try.prog 51 54 257 264 := by
  have h1 : ((Try.prog.info? 54).map (fun i => (i.size, i.bytes, (i.zero.map (fun z => z.cells.size))))) = some (257, 264, some 257) := by kernel_rfl
  refine ⟨Try.underlying51, ?_, by decide⟩
  cases hi : Try.prog.info? 54 with
  | none => rw [hi] at h1; simp at h1
  | some i =>
    rw [hi] at h1
    simp at h1
    obtain ⟨h1, h2, z, h3, h4⟩ := h1
    exact ⟨i, z, rfl, h3, h1, h2, h4⟩
theorem zero54 : (Try.prog.info? 54).bind (·.zero) = some (.agg (ra r0)) := by kernel_rfl
theorem run_new54 (w : World) : (Instr.alloc 54 true (.tuple #[])).run Try.prog w = .ok (.pointer (some ⟨w.heap.size, 0, none⟩)) (w.alloc (.cells (ra r0) 54)) := by
  have h := zero54
  cases hi : Try.prog.info? 54 with
  | none => rw [hi] at h; simp at h
  | some it =>
    rw [hi] at h
    simp only [Option.bind_some] at h
    simp [Instr.alloc, zeroValue, typeInfo, hi, h, newVar, newRow, Value.cells]
section
variable {ops : Array Oper} {rest : List Oper} {o : Oper} {a : Act} {w : World} {Q : Exit → Act → World → Prop}
theorem wp_new54 (hgd : o.guard = none) (ho : o.op = .alloc 54)
    (h : wpList Try.prog ops Q rest (a.put o.dst (.pointer (some ⟨w.heap.size, 0, none⟩))) (w.alloc (.cells (ra r0) 54))) : wpList Try.prog ops Q (o :: rest) a w := by
  refine wpList_plain hgd fun K hK => ?_
  unfold Oper.wp execOp
  simp only [ho, run_new54, Sem.run_bind, Sem.run_pure, Result.andThen_ok]
  exact hK _ _ h
end
section
variable {w : World}
theorem range54 {base g n c : Nat} {L : List RT} (h : OwnE fe 257 54 w base (.slice (some ⟨g, 0, none⟩) n c) L) {i : Nat} (hi : i < L.length) : w.rangeAt g (i * 257) (fe (L.getD i r0)) := fun j v hv => by
  have hl := (h.each _ (getD_mem' (d := r0) hi)).1
  have hj : j < 257 := by
    have := (List.getElem?_eq_some_iff.1 hv).1
    omega
  rw [own_cellE h r0 hi hj]; exact hv
theorem load54 {base g n c : Nat} {L : List RT} (h : OwnE fe 257 54 w base (.slice (some ⟨g, 0, none⟩) n c) L) {i : Nat} (hi : i < L.length) : (Instr.loadAt 54 (.pointer (some ⟨g, i * 257, none⟩))).run Try.prog w = .ok (.agg (ra (L.getD i r0))) w := by
  have hl := (h.each _ (getD_mem' (d := r0) hi)).1
  exact run_loadAt_mid w g (i * 257) 54 (fe (L.getD i r0)) _ (range54 h hi) Try.underlying54 rfl (by rw [hl]; exact info54)
theorem each54 {base g n c : Nat} {L : List RT} (h : OwnE fe 257 54 w base (.slice (some ⟨g, 0, none⟩) n c) L) {i : Nat} (hi : i < L.length) : (L.getD i r0).2.length = 256 := by
  have hl := (h.each _ (getD_mem' (d := r0) hi)).1
  simpa [fe] using hl
set_option maxHeartbeats 16000000 in
set_option maxRecDepth 100000 in
theorem take27 {base g n c : Nat} {L : List RT} (h : OwnE fe 257 54 w base (.slice (some ⟨g, 0, none⟩) n c) L) (hn : L.length = n) (hc : c ≤ maxLen) (h0 : 0 < n) (hn256 : n ≤ 256) :
    Calls Try.prog 27 #[.slice (some ⟨g, 0, none⟩) n c] w fun e w' => ∃ b v', b < n ∧ (∀ j, j < n → ltR (L.getD j r0) (L.getD b r0) = false) ∧ e = .returned (.tuple #[.agg (ra (L.getD b r0)), v']) ∧ OwnE fe 257 54 w' w.heap.size v' (L.take b ++ L.drop (b + 1)) ∧ Below w.heap.size w w' := by
  have H := Hid.mk h
  have Hn := Hid.mk hn
  have hcx : c ≤ 9223372036854775807 := hc
  have hnc : n ≤ c := by have := (h.rd r0).shape; obtain ⟨a', c', e', h1, _⟩ := this; simp at e'; omega
  obtain ⟨q, Hq⟩ : ∃ q, Hid (w.heap.size = q) := ⟨_, ⟨rfl⟩⟩
  obtain ⟨w1, Hw1⟩ : ∃ x, Hid (w.alloc (.cells (ra r0) 54) = x) := ⟨_, ⟨rfl⟩⟩
  have HB1 : Hid (Below w.heap.size w w1) := ⟨by rw [← Hw1.out]; exact (Below.refl _ w).alloc (Nat.le_refl _) _⟩
  have HQ1 : Hid (w1.heap[q]? = some (.cells (ra r0) 54 (0, 0))) := ⟨by rw [← Hw1.out, ← Hq.out]; exact heap_alloc_new w _⟩
  clear h hn hc
  go_enter Try.func27, Try.ntmps27
  go_upto_region 3 with (refine wp_new54 rfl rfl ?_; rw [Hw1.out, Hq.out])
  go_loopg [4, 5] n (fun gg s4 s5 wr => ∃ i b : Nat, i ≤ n ∧ n - i ≤ gg ∧ b < n ∧ s5 = .int .i64 (i : Int) ∧ s4 = .int .i64 (b : Int) ∧ Hid (∀ j, j < i → ltR (L.getD j r0) (L.getD b r0) = false) ∧ Hid (Below w.heap.size w wr) ∧ Hid (wr.heap[q]? = some (.cells (ra r0) 54 (0, 0))))
  case atStart => exact ⟨1, 0, by omega, by omega, by omega, rfl, rfl, ⟨fun j hj => by rw [show j = 0 by omega]; exact ltR_irr _⟩, HB1, HQ1⟩
  case round =>
    obtain ⟨i, b, hi, hgg, hb, rfl, rfl, HO, HB, HQ⟩ := hrel
    rename World => wo
    by_cases hlt : i < n
    · have hiz : (i : Int) < (n : Int) := by omega
      have hbz : (b : Int) < (n : Int) := by omega
      have HW := Hid.mk (fun w' (hw' : Below w.heap.size w w') => H.out.far (Chg.ofBelow (X := []) hw') (by simp))
      have hiL : i < L.length := by rw [Hn.out]; exact hlt
      have hbL : b < L.length := by rw [Hn.out]; exact hb
      obtain ⟨X, HX⟩ : ∃ X, Hid (L.getD i r0 = X) := ⟨_, ⟨rfl⟩⟩
      obtain ⟨Y, HY⟩ : ∃ X, Hid (L.getD b r0 = X) := ⟨_, ⟨rfl⟩⟩
      have HXl : Hid (X.2.length = 256) := ⟨by rw [← HX.out]; exact each54 H.out hiL⟩
      have HYl : Hid (Y.2.length = 256) := ⟨by rw [← HY.out]; exact each54 H.out hbL⟩
      obtain ⟨x1, Hx1⟩ : ∃ x, Hid (X.1 = x) := ⟨_, ⟨rfl⟩⟩
      obtain ⟨y1, Hy1⟩ : ∃ x, Hid (Y.1 = x) := ⟨_, ⟨rfl⟩⟩
      have HK : Hid (∀ w', Below w.heap.size w w' → w'.cell? ⟨g, i * 257, none⟩ = some (.int .i64 x1) ∧ w'.cell? ⟨g, b * 257, none⟩ = some (.int .i64 y1) ∧ (Instr.loadAt 54 (.pointer (some ⟨g, i * 257, none⟩))).run Try.prog w' = .ok (.agg (ra X)) w' ∧ (Instr.loadAt 54 (.pointer (some ⟨g, b * 257, none⟩))).run Try.prog w' = .ok (.agg (ra Y)) w') := ⟨fun w' hw' => by
        have hO := HW.out w' hw'
        have e1 := own_cellE hO r0 (j := 0) hiL (by decide)
        have e2 := own_cellE hO r0 (j := 0) hbL (by decide)
        have e3 := load54 hO hiL
        have e4 := load54 hO hbL
        rw [HX.out] at e1 e3
        rw [HY.out] at e2 e4
        refine ⟨?_, ?_, e3, e4⟩
        · rw [← Hx1.out]; simpa [fe] using e1
        · rw [← Hy1.out]; simpa [fe] using e2⟩
      have HOb : Hid (∀ j, j < i → ltR (L.getD j r0) Y = false) := ⟨by rw [← HY.out]; exact HO.out⟩
      rcases Int.lt_trichotomy x1 y1 with hxy | hxy | hxy
      · have HN : Hid (ltR (L.getD i r0) (L.getD i r0) = false) := ⟨ltR_irr _⟩
        have Hl : Hid (ltR X Y = true) := ⟨by unfold ltR; rw [Hx1.out, Hy1.out]; exact decide_eq_true (.inl hxy)⟩
        have HO : Hid (∀ j, j < i → ltR (L.getD j r0) (L.getD i r0) = false) := ⟨fun j hj => by rw [HX.out]; exact ltR_nt (HOb.out j hj) (ltR_as Hl.out)⟩
        go_upto_region 5 with fail
        refine wp_region_held_drew (S := fun w' => Below w.heap.size w w') (by kernel_rfl) HB.out.drew (fun hS => ?_)
        refine wpAnyH_take (i := 0) (v := .slice (some ⟨g, 0, none⟩) n c) rfl (by kernel_rfl) (by kernel_rfl) (by kernel_rfl) (fun _ _ _ h => h) (Or.inl ⟨by kernel_rfl, fun _ _ => by kernel_rfl⟩) hS ?_
        refine wpAnyH_take (i := 1) (v := .int .i64 (i : Int)) rfl (by kernel_rfl) (by kernel_rfl) (by kernel_rfl) (fun _ _ _ h => h) (Or.inl ⟨by kernel_rfl, fun _ _ => by kernel_rfl⟩) hS ?_
        refine wpAnyH_take (i := 2) (v := .pointer (some ⟨g, i * 257, none⟩)) rfl (by kernel_rfl) (by kernel_rfl) (by kernel_rfl) (fun _ _ _ h => h) (Or.inl ⟨by kernel_rfl, fun wx hx => by go_simp⟩) hS ?_
        refine wpAnyH_take (i := 3) (v := .pointer (some ⟨g, i * 257, none⟩)) rfl (by kernel_rfl) (by kernel_rfl) (by kernel_rfl) (fun _ _ _ h => h) (Or.inl ⟨by kernel_rfl, fun wx hx => by go_simp⟩) hS ?_
        refine wpAnyH_take (i := 4) (v := .int .i64 x1) rfl (by kernel_rfl) (by kernel_rfl) (by kernel_rfl) (fun _ _ _ h => h) (Or.inl ⟨by kernel_rfl, fun wx hx => by obtain ⟨hx1, hx2, hx3, hx4⟩ := HK.out wx hx; go_simp⟩) hS ?_
        refine wpAnyH_take (i := 5) (v := .slice (some ⟨g, 0, none⟩) n c) rfl (by kernel_rfl) (by kernel_rfl) (by kernel_rfl) (fun _ _ _ h => h) (Or.inl ⟨by kernel_rfl, fun _ _ => by kernel_rfl⟩) hS ?_
        refine wpAnyH_take (i := 6) (v := .int .i64 (b : Int)) rfl (by kernel_rfl) (by kernel_rfl) (by kernel_rfl) (fun _ _ _ h => h) (Or.inl ⟨by kernel_rfl, fun _ _ => by kernel_rfl⟩) hS ?_
        refine wpAnyH_take (i := 7) (v := .pointer (some ⟨g, b * 257, none⟩)) rfl (by kernel_rfl) (by kernel_rfl) (by kernel_rfl) (fun _ _ _ h => h) (Or.inl ⟨by kernel_rfl, fun wx hx => by go_simp⟩) hS ?_
        refine wpAnyH_take (i := 8) (v := .pointer (some ⟨g, b * 257, none⟩)) rfl (by kernel_rfl) (by kernel_rfl) (by kernel_rfl) (fun _ _ _ h => h) (Or.inl ⟨by kernel_rfl, fun wx hx => by go_simp⟩) hS ?_
        refine wpAnyH_take (i := 9) (v := .int .i64 y1) rfl (by kernel_rfl) (by kernel_rfl) (by kernel_rfl) (fun _ _ _ h => h) (Or.inl ⟨by kernel_rfl, fun wx hx => by obtain ⟨hx1, hx2, hx3, hx4⟩ := HK.out wx hx; go_simp⟩) hS ?_
        refine wpAnyH_take (i := 10) (v := .bool true) rfl (by kernel_rfl) (by kernel_rfl) (by kernel_rfl) (fun _ _ _ h => h) (Or.inl ⟨by kernel_rfl, fun wx hx => by go_simp⟩) hS ?_
        refine wpAnyH_take (i := 11) (v := .bool true) rfl (by kernel_rfl) (by kernel_rfl) (by kernel_rfl) (fun _ _ _ h => h) (Or.inl ⟨by kernel_rfl, fun _ _ => by kernel_rfl⟩) hS ?_
        refine wpAnyH_take (i := 12) (v := undef) rfl (by kernel_rfl) (by kernel_rfl) (by kernel_rfl) (fun _ _ _ h => h) (Or.inr ⟨by kernel_rfl, rfl⟩) hS ?_
        refine wpAnyH_take (i := 13) (v := undef) rfl (by kernel_rfl) (by kernel_rfl) (by kernel_rfl) (fun _ _ _ h => h) (Or.inr ⟨by kernel_rfl, rfl⟩) hS ?_
        refine wpAnyH_take (i := 14) (v := undef) rfl (by kernel_rfl) (by kernel_rfl) (by kernel_rfl) (fun _ _ _ h => h) (Or.inr ⟨by kernel_rfl, rfl⟩) hS ?_
        refine wpAnyH_take (i := 15) (v := undef) rfl (by kernel_rfl) (by kernel_rfl) (by kernel_rfl) (fun _ _ _ h => h) (Or.inr ⟨by kernel_rfl, rfl⟩) hS ?_
        refine wpAnyH_take (i := 16) (v := undef) rfl (by kernel_rfl) (by kernel_rfl) (by kernel_rfl) (fun _ _ _ h => h) (Or.inr ⟨by kernel_rfl, rfl⟩) hS ?_
        refine wpAnyH_take (i := 17) (v := undef) rfl (by kernel_rfl) (by kernel_rfl) (by kernel_rfl) (fun _ _ _ h => h) (Or.inr ⟨by kernel_rfl, rfl⟩) hS ?_
        refine wpAnyH_take (i := 18) (v := undef) rfl (by kernel_rfl) (by kernel_rfl) (by kernel_rfl) (fun _ _ _ h => h) (Or.inr ⟨by kernel_rfl, rfl⟩) hS ?_
        refine wpAnyH_take (i := 19) (v := undef) rfl (by kernel_rfl) (by kernel_rfl) (by kernel_rfl) (fun _ _ _ h => h) (Or.inr ⟨by kernel_rfl, rfl⟩) hS ?_
        refine wpAnyH_take (i := 20) (v := undef) rfl (by kernel_rfl) (by kernel_rfl) (by kernel_rfl) (fun _ _ _ h => h) (Or.inr ⟨by kernel_rfl, rfl⟩) hS ?_
        refine wpAnyH_take (i := 21) (v := undef) rfl (by kernel_rfl) (by kernel_rfl) (by kernel_rfl) (fun _ _ _ h => h) (Or.inr ⟨by kernel_rfl, rfl⟩) hS ?_
        refine wpAnyH_take (i := 22) (v := undef) rfl (by kernel_rfl) (by kernel_rfl) (by kernel_rfl) (fun _ _ _ h => h) (Or.inr ⟨by kernel_rfl, rfl⟩) hS ?_
        refine wpAnyH_take (i := 23) (v := undef) rfl (by kernel_rfl) (by kernel_rfl) (by kernel_rfl) (fun _ _ _ h => h) (Or.inr ⟨by kernel_rfl, rfl⟩) hS ?_
        refine wpAnyH_take (i := 24) (v := undef) rfl (by kernel_rfl) (by kernel_rfl) (by kernel_rfl) (fun _ _ _ h => h) (Or.inr ⟨by kernel_rfl, rfl⟩) hS ?_
        refine wpAnyH_take (i := 25) (v := undef) rfl (by kernel_rfl) (by kernel_rfl) (by kernel_rfl) (fun _ _ _ h => h) (Or.inr ⟨by kernel_rfl, rfl⟩) hS ?_
        refine wpAnyH_take (i := 26) (v := undef) rfl (by kernel_rfl) (by kernel_rfl) (by kernel_rfl) (fun _ _ _ h => h) (Or.inr ⟨by kernel_rfl, rfl⟩) hS ?_
        refine wpAnyH_take (i := 27) (v := undef) rfl (by kernel_rfl) (by kernel_rfl) (by kernel_rfl) (fun _ _ _ h => h) (Or.inr ⟨by kernel_rfl, rfl⟩) hS ?_
        refine wpAnyH_take (i := 28) (v := undef) rfl (by kernel_rfl) (by kernel_rfl) (by kernel_rfl) (fun _ _ _ h => h) (Or.inr ⟨by kernel_rfl, rfl⟩) hS ?_
        refine wpAnyH_take (i := 29) (v := undef) rfl (by kernel_rfl) (by kernel_rfl) (by kernel_rfl) (fun _ _ _ h => h) (Or.inr ⟨by kernel_rfl, rfl⟩) hS ?_
        refine wpAnyH_take (i := 30) (v := undef) rfl (by kernel_rfl) (by kernel_rfl) (by kernel_rfl) (fun _ _ _ h => h) (Or.inr ⟨by kernel_rfl, rfl⟩) hS ?_
        refine wpAnyH_take (i := 31) (v := undef) rfl (by kernel_rfl) (by kernel_rfl) (by kernel_rfl) (fun _ _ _ h => h) (Or.inr ⟨by kernel_rfl, rfl⟩) hS ?_
        refine wpAnyH_take (i := 32) (v := undef) rfl (by kernel_rfl) (by kernel_rfl) (by kernel_rfl) (fun _ _ _ h => h) (Or.inr ⟨by kernel_rfl, rfl⟩) hS ?_
        refine wpAnyH_take (i := 33) (v := undef) rfl (by kernel_rfl) (by kernel_rfl) (by kernel_rfl) (fun _ _ _ h => h) (Or.inr ⟨by kernel_rfl, rfl⟩) hS ?_
        refine wpAnyH_take (i := 34) (v := undef) rfl (by kernel_rfl) (by kernel_rfl) (by kernel_rfl) (fun _ _ _ h => h) (Or.inr ⟨by kernel_rfl, rfl⟩) hS ?_
        refine wpAnyH_take (i := 35) (v := undef) rfl (by kernel_rfl) (by kernel_rfl) (by kernel_rfl) (fun _ _ _ h => h) (Or.inr ⟨by kernel_rfl, rfl⟩) hS ?_
        refine wpAnyH_take (i := 36) (v := .bool true) rfl (by kernel_rfl) (by kernel_rfl) (by kernel_rfl) (fun _ _ _ h => h) (Or.inl ⟨by kernel_rfl, fun wx hx => by go_simp⟩) hS ?_
        refine wpAnyH_done (by kernel_rfl) ?_ _
        go_simp
        go_wp2_with fail
        go_roundg (n - (i + 1))
        case measure => omega
        case rel =>
          refine ⟨i + 1, i, by omega, by omega, by omega, by go_num, rfl, ⟨fun j hj => ?_⟩, ⟨HB.out.drew⟩, HQ⟩
          by_cases e : j = i
          · rw [e]; exact HN.out
          · exact HO.out j (by omega)
      · subst hxy
        obtain ⟨fx, Hfx⟩ : ∃ x, Hid (fst X = x) := ⟨_, ⟨rfl⟩⟩
        obtain ⟨fy, Hfy⟩ : ∃ x, Hid (fst Y = x) := ⟨_, ⟨rfl⟩⟩
        by_cases hf : fx < fy
        · have hfz : (fx : Int) < (fy : Int) := by omega
          have HN : Hid (ltR (L.getD i r0) (L.getD i r0) = false) := ⟨ltR_irr _⟩
          have Hl : Hid (ltR X Y = true) := ⟨by unfold ltR; rw [Hx1.out, Hy1.out, Hfx.out, Hfy.out]; exact decide_eq_true (.inr ⟨rfl, hf⟩)⟩
          have HO : Hid (∀ j, j < i → ltR (L.getD j r0) (L.getD i r0) = false) := ⟨fun j hj => by rw [HX.out]; exact ltR_nt (HOb.out j hj) (ltR_as Hl.out)⟩
          rw [← Hfx.out, ← Hfy.out] at hfz
          clear hf
          go_upto_region 5 with fail
          refine wp_region_held_drew (S := fun w' => Below w.heap.size w w') (by kernel_rfl) HB.out.drew (fun hS => ?_)
          refine wpAnyH_take (i := 0) (v := .slice (some ⟨g, 0, none⟩) n c) rfl (by kernel_rfl) (by kernel_rfl) (by kernel_rfl) (fun _ _ _ h => h) (Or.inl ⟨by kernel_rfl, fun _ _ => by kernel_rfl⟩) hS ?_
          refine wpAnyH_take (i := 1) (v := .int .i64 (i : Int)) rfl (by kernel_rfl) (by kernel_rfl) (by kernel_rfl) (fun _ _ _ h => h) (Or.inl ⟨by kernel_rfl, fun _ _ => by kernel_rfl⟩) hS ?_
          refine wpAnyH_take (i := 2) (v := .pointer (some ⟨g, i * 257, none⟩)) rfl (by kernel_rfl) (by kernel_rfl) (by kernel_rfl) (fun _ _ _ h => h) (Or.inl ⟨by kernel_rfl, fun wx hx => by go_simp⟩) hS ?_
          refine wpAnyH_take (i := 3) (v := .pointer (some ⟨g, i * 257, none⟩)) rfl (by kernel_rfl) (by kernel_rfl) (by kernel_rfl) (fun _ _ _ h => h) (Or.inl ⟨by kernel_rfl, fun wx hx => by go_simp⟩) hS ?_
          refine wpAnyH_take (i := 4) (v := .int .i64 x1) rfl (by kernel_rfl) (by kernel_rfl) (by kernel_rfl) (fun _ _ _ h => h) (Or.inl ⟨by kernel_rfl, fun wx hx => by obtain ⟨hx1, hx2, hx3, hx4⟩ := HK.out wx hx; go_simp⟩) hS ?_
          refine wpAnyH_take (i := 5) (v := .slice (some ⟨g, 0, none⟩) n c) rfl (by kernel_rfl) (by kernel_rfl) (by kernel_rfl) (fun _ _ _ h => h) (Or.inl ⟨by kernel_rfl, fun _ _ => by kernel_rfl⟩) hS ?_
          refine wpAnyH_take (i := 6) (v := .int .i64 (b : Int)) rfl (by kernel_rfl) (by kernel_rfl) (by kernel_rfl) (fun _ _ _ h => h) (Or.inl ⟨by kernel_rfl, fun _ _ => by kernel_rfl⟩) hS ?_
          refine wpAnyH_take (i := 7) (v := .pointer (some ⟨g, b * 257, none⟩)) rfl (by kernel_rfl) (by kernel_rfl) (by kernel_rfl) (fun _ _ _ h => h) (Or.inl ⟨by kernel_rfl, fun wx hx => by go_simp⟩) hS ?_
          refine wpAnyH_take (i := 8) (v := .pointer (some ⟨g, b * 257, none⟩)) rfl (by kernel_rfl) (by kernel_rfl) (by kernel_rfl) (fun _ _ _ h => h) (Or.inl ⟨by kernel_rfl, fun wx hx => by go_simp⟩) hS ?_
          refine wpAnyH_take (i := 9) (v := .int .i64 x1) rfl (by kernel_rfl) (by kernel_rfl) (by kernel_rfl) (fun _ _ _ h => h) (Or.inl ⟨by kernel_rfl, fun wx hx => by obtain ⟨hx1, hx2, hx3, hx4⟩ := HK.out wx hx; go_simp⟩) hS ?_
          refine wpAnyH_take (i := 10) (v := .bool false) rfl (by kernel_rfl) (by kernel_rfl) (by kernel_rfl) (fun _ _ _ h => h) (Or.inl ⟨by kernel_rfl, fun wx hx => by go_simp⟩) hS ?_
          refine wpAnyH_take (i := 11) (v := .bool false) rfl (by kernel_rfl) (by kernel_rfl) (by kernel_rfl) (fun _ _ _ h => h) (Or.inl ⟨by kernel_rfl, fun _ _ => by kernel_rfl⟩) hS ?_
          refine wpAnyH_take (i := 12) (v := .slice (some ⟨g, 0, none⟩) n c) rfl (by kernel_rfl) (by kernel_rfl) (by kernel_rfl) (fun _ _ _ h => h) (Or.inl ⟨by kernel_rfl, fun _ _ => by kernel_rfl⟩) hS ?_
          refine wpAnyH_take (i := 13) (v := .int .i64 (i : Int)) rfl (by kernel_rfl) (by kernel_rfl) (by kernel_rfl) (fun _ _ _ h => h) (Or.inl ⟨by kernel_rfl, fun _ _ => by kernel_rfl⟩) hS ?_
          refine wpAnyH_take (i := 14) (v := .pointer (some ⟨g, i * 257, none⟩)) rfl (by kernel_rfl) (by kernel_rfl) (by kernel_rfl) (fun _ _ _ h => h) (Or.inl ⟨by kernel_rfl, fun wx hx => by go_simp⟩) hS ?_
          refine wpAnyH_take (i := 15) (v := .pointer (some ⟨g, i * 257, none⟩)) rfl (by kernel_rfl) (by kernel_rfl) (by kernel_rfl) (fun _ _ _ h => h) (Or.inl ⟨by kernel_rfl, fun wx hx => by go_simp⟩) hS ?_
          refine wpAnyH_take (i := 16) (v := .int .i64 x1) rfl (by kernel_rfl) (by kernel_rfl) (by kernel_rfl) (fun _ _ _ h => h) (Or.inl ⟨by kernel_rfl, fun wx hx => by obtain ⟨hx1, hx2, hx3, hx4⟩ := HK.out wx hx; go_simp⟩) hS ?_
          refine wpAnyH_take (i := 17) (v := .slice (some ⟨g, 0, none⟩) n c) rfl (by kernel_rfl) (by kernel_rfl) (by kernel_rfl) (fun _ _ _ h => h) (Or.inl ⟨by kernel_rfl, fun _ _ => by kernel_rfl⟩) hS ?_
          refine wpAnyH_take (i := 18) (v := .int .i64 (b : Int)) rfl (by kernel_rfl) (by kernel_rfl) (by kernel_rfl) (fun _ _ _ h => h) (Or.inl ⟨by kernel_rfl, fun _ _ => by kernel_rfl⟩) hS ?_
          refine wpAnyH_take (i := 19) (v := .pointer (some ⟨g, b * 257, none⟩)) rfl (by kernel_rfl) (by kernel_rfl) (by kernel_rfl) (fun _ _ _ h => h) (Or.inl ⟨by kernel_rfl, fun wx hx => by go_simp⟩) hS ?_
          refine wpAnyH_take (i := 20) (v := .pointer (some ⟨g, b * 257, none⟩)) rfl (by kernel_rfl) (by kernel_rfl) (by kernel_rfl) (fun _ _ _ h => h) (Or.inl ⟨by kernel_rfl, fun wx hx => by go_simp⟩) hS ?_
          refine wpAnyH_take (i := 21) (v := .int .i64 x1) rfl (by kernel_rfl) (by kernel_rfl) (by kernel_rfl) (fun _ _ _ h => h) (Or.inl ⟨by kernel_rfl, fun wx hx => by obtain ⟨hx1, hx2, hx3, hx4⟩ := HK.out wx hx; go_simp⟩) hS ?_
          refine wpAnyH_take (i := 22) (v := .bool true) rfl (by kernel_rfl) (by kernel_rfl) (by kernel_rfl) (fun _ _ _ h => h) (Or.inl ⟨by kernel_rfl, fun wx hx => by go_simp⟩) hS ?_
          refine wpAnyH_take (i := 23) (v := .bool true) rfl (by kernel_rfl) (by kernel_rfl) (by kernel_rfl) (fun _ _ _ h => h) (Or.inl ⟨by kernel_rfl, fun _ _ => by kernel_rfl⟩) hS ?_
          refine wpAnyH_take (i := 24) (v := .slice (some ⟨g, 0, none⟩) n c) rfl (by kernel_rfl) (by kernel_rfl) (by kernel_rfl) (fun _ _ _ h => h) (Or.inl ⟨by kernel_rfl, fun _ _ => by kernel_rfl⟩) hS ?_
          refine wpAnyH_take (i := 25) (v := .int .i64 (i : Int)) rfl (by kernel_rfl) (by kernel_rfl) (by kernel_rfl) (fun _ _ _ h => h) (Or.inl ⟨by kernel_rfl, fun _ _ => by kernel_rfl⟩) hS ?_
          refine wpAnyH_take (i := 26) (v := .pointer (some ⟨g, i * 257, none⟩)) rfl (by kernel_rfl) (by kernel_rfl) (by kernel_rfl) (fun _ _ _ h => h) (Or.inl ⟨by kernel_rfl, fun wx hx => by go_simp⟩) hS ?_
          refine wpAnyH_take (i := 27) (v := .agg (ra X)) rfl (by kernel_rfl) (by kernel_rfl) (by kernel_rfl) (fun _ _ _ h => h) (yieldsIf_load_mid (by kernel_rfl) 54 (.tmp 39) rfl g (i * 257) (by kernel_rfl) (fe X) _ (fun wx hx => by have e := range54 (HW.out wx hx) hiL; rw [HX.out] at e; exact e) Try.underlying54 rfl (by rw [fe_len HXl.out]; exact info54)) hS ?_
          refine wpAnyH_take (i := 29) (v := .slice (some ⟨g, 0, none⟩) n c) rfl (by kernel_rfl) (by kernel_rfl) (by kernel_rfl) (fun _ _ _ h => h) (Or.inl ⟨by kernel_rfl, fun _ _ => by kernel_rfl⟩) hS ?_
          refine wpAnyH_take (i := 30) (v := .int .i64 (b : Int)) rfl (by kernel_rfl) (by kernel_rfl) (by kernel_rfl) (fun _ _ _ h => h) (Or.inl ⟨by kernel_rfl, fun _ _ => by kernel_rfl⟩) hS ?_
          refine wpAnyH_take (i := 31) (v := .pointer (some ⟨g, b * 257, none⟩)) rfl (by kernel_rfl) (by kernel_rfl) (by kernel_rfl) (fun _ _ _ h => h) (Or.inl ⟨by kernel_rfl, fun wx hx => by go_simp⟩) hS ?_
          refine wpAnyH_take (i := 32) (v := .agg (ra Y)) rfl (by kernel_rfl) (by kernel_rfl) (by kernel_rfl) (fun _ _ _ h => h) (yieldsIf_load_mid (by kernel_rfl) 54 (.tmp 44) rfl g (b * 257) (by kernel_rfl) (fe Y) _ (fun wx hx => by have e := range54 (HW.out wx hx) hbL; rw [HY.out] at e; exact e) Try.underlying54 rfl (by rw [fe_len HYl.out]; exact info54)) hS ?_
          refine wpAnyH_ready (rs := [28]) (by kernel_rfl) (by simp) (AllReadyH.cons rfl (fun Kc hK => ?_) AllReadyH.nil)
          go_simp
          refine (first26 (w := _) X HXl.out).mono ?_
          rintro e w5 ⟨rfl, hB5⟩
          have HS5 : Hid (Below w.heap.size w w5) := ⟨hS.trans (hB5.mono hS.size)⟩
          have HQ5 := Hid.mk (below_at hB5 HQ.out)
          refine hK.out _ _ HS5.out (fun hS => ?_)
          clear hK hB5
          refine wpAnyH_ready (rs := [33]) (by kernel_rfl) (by simp) (AllReadyH.cons rfl (fun Kc hK => ?_) AllReadyH.nil)
          go_simp
          refine (first26 (w := _) Y HYl.out).mono ?_
          rintro e w6 ⟨rfl, hB6⟩
          have HS6 : Hid (Below w.heap.size w w6) := ⟨HS5.out.trans (hB6.mono HS5.out.size)⟩
          have HQ6 := Hid.mk (below_at hB6 HQ5.out)
          refine hK.out _ _ HS6.out (fun hS => ?_)
          clear hK hB6
          refine wpAnyH_take (i := 34) (v := .bool true) rfl (by kernel_rfl) (by kernel_rfl) (by kernel_rfl) (fun _ _ _ h => h) (Or.inl ⟨by kernel_rfl, fun wx hx => by go_simp⟩) hS ?_
          refine wpAnyH_take (i := 35) (v := .bool true) rfl (by kernel_rfl) (by kernel_rfl) (by kernel_rfl) (fun _ _ _ h => h) (Or.inl ⟨by kernel_rfl, fun wx hx => by go_simp⟩) hS ?_
          refine wpAnyH_take (i := 36) (v := .bool true) rfl (by kernel_rfl) (by kernel_rfl) (by kernel_rfl) (fun _ _ _ h => h) (Or.inl ⟨by kernel_rfl, fun wx hx => by go_simp⟩) hS ?_
          refine wpAnyH_done (by kernel_rfl) ?_ _
          go_simp
          go_wp2_with fail
          go_roundg (n - (i + 1))
          case measure => omega
          case rel =>
            refine ⟨i + 1, i, by omega, by omega, by omega, by go_num, rfl, ⟨fun j hj => ?_⟩, HS6, HQ6⟩
            by_cases e : j = i
            · rw [e]; exact HN.out
            · exact HO.out j (by omega)
        · have hfz : ¬ (fx : Int) < (fy : Int) := by omega
          have HN : Hid (ltR (L.getD i r0) (L.getD b r0) = false) := ⟨by rw [HX.out, HY.out]; unfold ltR; rw [Hx1.out, Hy1.out, Hfx.out, Hfy.out]; exact decide_eq_false (by omega)⟩
          rw [← Hfx.out, ← Hfy.out] at hfz
          clear hf
          go_upto_region 5 with fail
          refine wp_region_held_drew (S := fun w' => Below w.heap.size w w') (by kernel_rfl) HB.out.drew (fun hS => ?_)
          refine wpAnyH_take (i := 0) (v := .slice (some ⟨g, 0, none⟩) n c) rfl (by kernel_rfl) (by kernel_rfl) (by kernel_rfl) (fun _ _ _ h => h) (Or.inl ⟨by kernel_rfl, fun _ _ => by kernel_rfl⟩) hS ?_
          refine wpAnyH_take (i := 1) (v := .int .i64 (i : Int)) rfl (by kernel_rfl) (by kernel_rfl) (by kernel_rfl) (fun _ _ _ h => h) (Or.inl ⟨by kernel_rfl, fun _ _ => by kernel_rfl⟩) hS ?_
          refine wpAnyH_take (i := 2) (v := .pointer (some ⟨g, i * 257, none⟩)) rfl (by kernel_rfl) (by kernel_rfl) (by kernel_rfl) (fun _ _ _ h => h) (Or.inl ⟨by kernel_rfl, fun wx hx => by go_simp⟩) hS ?_
          refine wpAnyH_take (i := 3) (v := .pointer (some ⟨g, i * 257, none⟩)) rfl (by kernel_rfl) (by kernel_rfl) (by kernel_rfl) (fun _ _ _ h => h) (Or.inl ⟨by kernel_rfl, fun wx hx => by go_simp⟩) hS ?_
          refine wpAnyH_take (i := 4) (v := .int .i64 x1) rfl (by kernel_rfl) (by kernel_rfl) (by kernel_rfl) (fun _ _ _ h => h) (Or.inl ⟨by kernel_rfl, fun wx hx => by obtain ⟨hx1, hx2, hx3, hx4⟩ := HK.out wx hx; go_simp⟩) hS ?_
          refine wpAnyH_take (i := 5) (v := .slice (some ⟨g, 0, none⟩) n c) rfl (by kernel_rfl) (by kernel_rfl) (by kernel_rfl) (fun _ _ _ h => h) (Or.inl ⟨by kernel_rfl, fun _ _ => by kernel_rfl⟩) hS ?_
          refine wpAnyH_take (i := 6) (v := .int .i64 (b : Int)) rfl (by kernel_rfl) (by kernel_rfl) (by kernel_rfl) (fun _ _ _ h => h) (Or.inl ⟨by kernel_rfl, fun _ _ => by kernel_rfl⟩) hS ?_
          refine wpAnyH_take (i := 7) (v := .pointer (some ⟨g, b * 257, none⟩)) rfl (by kernel_rfl) (by kernel_rfl) (by kernel_rfl) (fun _ _ _ h => h) (Or.inl ⟨by kernel_rfl, fun wx hx => by go_simp⟩) hS ?_
          refine wpAnyH_take (i := 8) (v := .pointer (some ⟨g, b * 257, none⟩)) rfl (by kernel_rfl) (by kernel_rfl) (by kernel_rfl) (fun _ _ _ h => h) (Or.inl ⟨by kernel_rfl, fun wx hx => by go_simp⟩) hS ?_
          refine wpAnyH_take (i := 9) (v := .int .i64 x1) rfl (by kernel_rfl) (by kernel_rfl) (by kernel_rfl) (fun _ _ _ h => h) (Or.inl ⟨by kernel_rfl, fun wx hx => by obtain ⟨hx1, hx2, hx3, hx4⟩ := HK.out wx hx; go_simp⟩) hS ?_
          refine wpAnyH_take (i := 10) (v := .bool false) rfl (by kernel_rfl) (by kernel_rfl) (by kernel_rfl) (fun _ _ _ h => h) (Or.inl ⟨by kernel_rfl, fun wx hx => by go_simp⟩) hS ?_
          refine wpAnyH_take (i := 11) (v := .bool false) rfl (by kernel_rfl) (by kernel_rfl) (by kernel_rfl) (fun _ _ _ h => h) (Or.inl ⟨by kernel_rfl, fun _ _ => by kernel_rfl⟩) hS ?_
          refine wpAnyH_take (i := 12) (v := .slice (some ⟨g, 0, none⟩) n c) rfl (by kernel_rfl) (by kernel_rfl) (by kernel_rfl) (fun _ _ _ h => h) (Or.inl ⟨by kernel_rfl, fun _ _ => by kernel_rfl⟩) hS ?_
          refine wpAnyH_take (i := 13) (v := .int .i64 (i : Int)) rfl (by kernel_rfl) (by kernel_rfl) (by kernel_rfl) (fun _ _ _ h => h) (Or.inl ⟨by kernel_rfl, fun _ _ => by kernel_rfl⟩) hS ?_
          refine wpAnyH_take (i := 14) (v := .pointer (some ⟨g, i * 257, none⟩)) rfl (by kernel_rfl) (by kernel_rfl) (by kernel_rfl) (fun _ _ _ h => h) (Or.inl ⟨by kernel_rfl, fun wx hx => by go_simp⟩) hS ?_
          refine wpAnyH_take (i := 15) (v := .pointer (some ⟨g, i * 257, none⟩)) rfl (by kernel_rfl) (by kernel_rfl) (by kernel_rfl) (fun _ _ _ h => h) (Or.inl ⟨by kernel_rfl, fun wx hx => by go_simp⟩) hS ?_
          refine wpAnyH_take (i := 16) (v := .int .i64 x1) rfl (by kernel_rfl) (by kernel_rfl) (by kernel_rfl) (fun _ _ _ h => h) (Or.inl ⟨by kernel_rfl, fun wx hx => by obtain ⟨hx1, hx2, hx3, hx4⟩ := HK.out wx hx; go_simp⟩) hS ?_
          refine wpAnyH_take (i := 17) (v := .slice (some ⟨g, 0, none⟩) n c) rfl (by kernel_rfl) (by kernel_rfl) (by kernel_rfl) (fun _ _ _ h => h) (Or.inl ⟨by kernel_rfl, fun _ _ => by kernel_rfl⟩) hS ?_
          refine wpAnyH_take (i := 18) (v := .int .i64 (b : Int)) rfl (by kernel_rfl) (by kernel_rfl) (by kernel_rfl) (fun _ _ _ h => h) (Or.inl ⟨by kernel_rfl, fun _ _ => by kernel_rfl⟩) hS ?_
          refine wpAnyH_take (i := 19) (v := .pointer (some ⟨g, b * 257, none⟩)) rfl (by kernel_rfl) (by kernel_rfl) (by kernel_rfl) (fun _ _ _ h => h) (Or.inl ⟨by kernel_rfl, fun wx hx => by go_simp⟩) hS ?_
          refine wpAnyH_take (i := 20) (v := .pointer (some ⟨g, b * 257, none⟩)) rfl (by kernel_rfl) (by kernel_rfl) (by kernel_rfl) (fun _ _ _ h => h) (Or.inl ⟨by kernel_rfl, fun wx hx => by go_simp⟩) hS ?_
          refine wpAnyH_take (i := 21) (v := .int .i64 x1) rfl (by kernel_rfl) (by kernel_rfl) (by kernel_rfl) (fun _ _ _ h => h) (Or.inl ⟨by kernel_rfl, fun wx hx => by obtain ⟨hx1, hx2, hx3, hx4⟩ := HK.out wx hx; go_simp⟩) hS ?_
          refine wpAnyH_take (i := 22) (v := .bool true) rfl (by kernel_rfl) (by kernel_rfl) (by kernel_rfl) (fun _ _ _ h => h) (Or.inl ⟨by kernel_rfl, fun wx hx => by go_simp⟩) hS ?_
          refine wpAnyH_take (i := 23) (v := .bool true) rfl (by kernel_rfl) (by kernel_rfl) (by kernel_rfl) (fun _ _ _ h => h) (Or.inl ⟨by kernel_rfl, fun _ _ => by kernel_rfl⟩) hS ?_
          refine wpAnyH_take (i := 24) (v := .slice (some ⟨g, 0, none⟩) n c) rfl (by kernel_rfl) (by kernel_rfl) (by kernel_rfl) (fun _ _ _ h => h) (Or.inl ⟨by kernel_rfl, fun _ _ => by kernel_rfl⟩) hS ?_
          refine wpAnyH_take (i := 25) (v := .int .i64 (i : Int)) rfl (by kernel_rfl) (by kernel_rfl) (by kernel_rfl) (fun _ _ _ h => h) (Or.inl ⟨by kernel_rfl, fun _ _ => by kernel_rfl⟩) hS ?_
          refine wpAnyH_take (i := 26) (v := .pointer (some ⟨g, i * 257, none⟩)) rfl (by kernel_rfl) (by kernel_rfl) (by kernel_rfl) (fun _ _ _ h => h) (Or.inl ⟨by kernel_rfl, fun wx hx => by go_simp⟩) hS ?_
          refine wpAnyH_take (i := 27) (v := .agg (ra X)) rfl (by kernel_rfl) (by kernel_rfl) (by kernel_rfl) (fun _ _ _ h => h) (yieldsIf_load_mid (by kernel_rfl) 54 (.tmp 39) rfl g (i * 257) (by kernel_rfl) (fe X) _ (fun wx hx => by have e := range54 (HW.out wx hx) hiL; rw [HX.out] at e; exact e) Try.underlying54 rfl (by rw [fe_len HXl.out]; exact info54)) hS ?_
          refine wpAnyH_take (i := 29) (v := .slice (some ⟨g, 0, none⟩) n c) rfl (by kernel_rfl) (by kernel_rfl) (by kernel_rfl) (fun _ _ _ h => h) (Or.inl ⟨by kernel_rfl, fun _ _ => by kernel_rfl⟩) hS ?_
          refine wpAnyH_take (i := 30) (v := .int .i64 (b : Int)) rfl (by kernel_rfl) (by kernel_rfl) (by kernel_rfl) (fun _ _ _ h => h) (Or.inl ⟨by kernel_rfl, fun _ _ => by kernel_rfl⟩) hS ?_
          refine wpAnyH_take (i := 31) (v := .pointer (some ⟨g, b * 257, none⟩)) rfl (by kernel_rfl) (by kernel_rfl) (by kernel_rfl) (fun _ _ _ h => h) (Or.inl ⟨by kernel_rfl, fun wx hx => by go_simp⟩) hS ?_
          refine wpAnyH_take (i := 32) (v := .agg (ra Y)) rfl (by kernel_rfl) (by kernel_rfl) (by kernel_rfl) (fun _ _ _ h => h) (yieldsIf_load_mid (by kernel_rfl) 54 (.tmp 44) rfl g (b * 257) (by kernel_rfl) (fe Y) _ (fun wx hx => by have e := range54 (HW.out wx hx) hbL; rw [HY.out] at e; exact e) Try.underlying54 rfl (by rw [fe_len HYl.out]; exact info54)) hS ?_
          refine wpAnyH_ready (rs := [28]) (by kernel_rfl) (by simp) (AllReadyH.cons rfl (fun Kc hK => ?_) AllReadyH.nil)
          go_simp
          refine (first26 (w := _) X HXl.out).mono ?_
          rintro e w5 ⟨rfl, hB5⟩
          have HS5 : Hid (Below w.heap.size w w5) := ⟨hS.trans (hB5.mono hS.size)⟩
          have HQ5 := Hid.mk (below_at hB5 HQ.out)
          refine hK.out _ _ HS5.out (fun hS => ?_)
          clear hK hB5
          refine wpAnyH_ready (rs := [33]) (by kernel_rfl) (by simp) (AllReadyH.cons rfl (fun Kc hK => ?_) AllReadyH.nil)
          go_simp
          refine (first26 (w := _) Y HYl.out).mono ?_
          rintro e w6 ⟨rfl, hB6⟩
          have HS6 : Hid (Below w.heap.size w w6) := ⟨HS5.out.trans (hB6.mono HS5.out.size)⟩
          have HQ6 := Hid.mk (below_at hB6 HQ5.out)
          refine hK.out _ _ HS6.out (fun hS => ?_)
          clear hK hB6
          refine wpAnyH_take (i := 34) (v := .bool false) rfl (by kernel_rfl) (by kernel_rfl) (by kernel_rfl) (fun _ _ _ h => h) (Or.inl ⟨by kernel_rfl, fun wx hx => by go_simp⟩) hS ?_
          refine wpAnyH_take (i := 35) (v := .bool false) rfl (by kernel_rfl) (by kernel_rfl) (by kernel_rfl) (fun _ _ _ h => h) (Or.inl ⟨by kernel_rfl, fun wx hx => by go_simp⟩) hS ?_
          refine wpAnyH_take (i := 36) (v := .bool false) rfl (by kernel_rfl) (by kernel_rfl) (by kernel_rfl) (fun _ _ _ h => h) (Or.inl ⟨by kernel_rfl, fun wx hx => by go_simp⟩) hS ?_
          refine wpAnyH_done (by kernel_rfl) ?_ _
          go_simp
          go_wp2_with fail
          go_roundg (n - (i + 1))
          case measure => omega
          case rel =>
            refine ⟨i + 1, b, by omega, by omega, by omega, by go_num, rfl, ⟨fun j hj => ?_⟩, HS6, HQ6⟩
            by_cases e : j = i
            · rw [e]; exact HN.out
            · exact HO.out j (by omega)
      · have hxy2 : ¬ x1 < y1 := by omega
        have hxyb : (x1 == y1) = false := by simp; omega
        have HN : Hid (ltR (L.getD i r0) (L.getD b r0) = false) := ⟨by rw [HX.out, HY.out]; unfold ltR; rw [Hx1.out, Hy1.out]; exact decide_eq_false (by omega)⟩
        go_upto_region 5 with fail
        refine wp_region_held_drew (S := fun w' => Below w.heap.size w w') (by kernel_rfl) HB.out.drew (fun hS => ?_)
        refine wpAnyH_take (i := 0) (v := .slice (some ⟨g, 0, none⟩) n c) rfl (by kernel_rfl) (by kernel_rfl) (by kernel_rfl) (fun _ _ _ h => h) (Or.inl ⟨by kernel_rfl, fun _ _ => by kernel_rfl⟩) hS ?_
        refine wpAnyH_take (i := 1) (v := .int .i64 (i : Int)) rfl (by kernel_rfl) (by kernel_rfl) (by kernel_rfl) (fun _ _ _ h => h) (Or.inl ⟨by kernel_rfl, fun _ _ => by kernel_rfl⟩) hS ?_
        refine wpAnyH_take (i := 2) (v := .pointer (some ⟨g, i * 257, none⟩)) rfl (by kernel_rfl) (by kernel_rfl) (by kernel_rfl) (fun _ _ _ h => h) (Or.inl ⟨by kernel_rfl, fun wx hx => by go_simp⟩) hS ?_
        refine wpAnyH_take (i := 3) (v := .pointer (some ⟨g, i * 257, none⟩)) rfl (by kernel_rfl) (by kernel_rfl) (by kernel_rfl) (fun _ _ _ h => h) (Or.inl ⟨by kernel_rfl, fun wx hx => by go_simp⟩) hS ?_
        refine wpAnyH_take (i := 4) (v := .int .i64 x1) rfl (by kernel_rfl) (by kernel_rfl) (by kernel_rfl) (fun _ _ _ h => h) (Or.inl ⟨by kernel_rfl, fun wx hx => by obtain ⟨hx1, hx2, hx3, hx4⟩ := HK.out wx hx; go_simp⟩) hS ?_
        refine wpAnyH_take (i := 5) (v := .slice (some ⟨g, 0, none⟩) n c) rfl (by kernel_rfl) (by kernel_rfl) (by kernel_rfl) (fun _ _ _ h => h) (Or.inl ⟨by kernel_rfl, fun _ _ => by kernel_rfl⟩) hS ?_
        refine wpAnyH_take (i := 6) (v := .int .i64 (b : Int)) rfl (by kernel_rfl) (by kernel_rfl) (by kernel_rfl) (fun _ _ _ h => h) (Or.inl ⟨by kernel_rfl, fun _ _ => by kernel_rfl⟩) hS ?_
        refine wpAnyH_take (i := 7) (v := .pointer (some ⟨g, b * 257, none⟩)) rfl (by kernel_rfl) (by kernel_rfl) (by kernel_rfl) (fun _ _ _ h => h) (Or.inl ⟨by kernel_rfl, fun wx hx => by go_simp⟩) hS ?_
        refine wpAnyH_take (i := 8) (v := .pointer (some ⟨g, b * 257, none⟩)) rfl (by kernel_rfl) (by kernel_rfl) (by kernel_rfl) (fun _ _ _ h => h) (Or.inl ⟨by kernel_rfl, fun wx hx => by go_simp⟩) hS ?_
        refine wpAnyH_take (i := 9) (v := .int .i64 y1) rfl (by kernel_rfl) (by kernel_rfl) (by kernel_rfl) (fun _ _ _ h => h) (Or.inl ⟨by kernel_rfl, fun wx hx => by obtain ⟨hx1, hx2, hx3, hx4⟩ := HK.out wx hx; go_simp⟩) hS ?_
        refine wpAnyH_take (i := 10) (v := .bool false) rfl (by kernel_rfl) (by kernel_rfl) (by kernel_rfl) (fun _ _ _ h => h) (Or.inl ⟨by kernel_rfl, fun wx hx => by go_simp⟩) hS ?_
        refine wpAnyH_take (i := 11) (v := .bool false) rfl (by kernel_rfl) (by kernel_rfl) (by kernel_rfl) (fun _ _ _ h => h) (Or.inl ⟨by kernel_rfl, fun _ _ => by kernel_rfl⟩) hS ?_
        refine wpAnyH_take (i := 12) (v := .slice (some ⟨g, 0, none⟩) n c) rfl (by kernel_rfl) (by kernel_rfl) (by kernel_rfl) (fun _ _ _ h => h) (Or.inl ⟨by kernel_rfl, fun _ _ => by kernel_rfl⟩) hS ?_
        refine wpAnyH_take (i := 13) (v := .int .i64 (i : Int)) rfl (by kernel_rfl) (by kernel_rfl) (by kernel_rfl) (fun _ _ _ h => h) (Or.inl ⟨by kernel_rfl, fun _ _ => by kernel_rfl⟩) hS ?_
        refine wpAnyH_take (i := 14) (v := .pointer (some ⟨g, i * 257, none⟩)) rfl (by kernel_rfl) (by kernel_rfl) (by kernel_rfl) (fun _ _ _ h => h) (Or.inl ⟨by kernel_rfl, fun wx hx => by go_simp⟩) hS ?_
        refine wpAnyH_take (i := 15) (v := .pointer (some ⟨g, i * 257, none⟩)) rfl (by kernel_rfl) (by kernel_rfl) (by kernel_rfl) (fun _ _ _ h => h) (Or.inl ⟨by kernel_rfl, fun wx hx => by go_simp⟩) hS ?_
        refine wpAnyH_take (i := 16) (v := .int .i64 x1) rfl (by kernel_rfl) (by kernel_rfl) (by kernel_rfl) (fun _ _ _ h => h) (Or.inl ⟨by kernel_rfl, fun wx hx => by obtain ⟨hx1, hx2, hx3, hx4⟩ := HK.out wx hx; go_simp⟩) hS ?_
        refine wpAnyH_take (i := 17) (v := .slice (some ⟨g, 0, none⟩) n c) rfl (by kernel_rfl) (by kernel_rfl) (by kernel_rfl) (fun _ _ _ h => h) (Or.inl ⟨by kernel_rfl, fun _ _ => by kernel_rfl⟩) hS ?_
        refine wpAnyH_take (i := 18) (v := .int .i64 (b : Int)) rfl (by kernel_rfl) (by kernel_rfl) (by kernel_rfl) (fun _ _ _ h => h) (Or.inl ⟨by kernel_rfl, fun _ _ => by kernel_rfl⟩) hS ?_
        refine wpAnyH_take (i := 19) (v := .pointer (some ⟨g, b * 257, none⟩)) rfl (by kernel_rfl) (by kernel_rfl) (by kernel_rfl) (fun _ _ _ h => h) (Or.inl ⟨by kernel_rfl, fun wx hx => by go_simp⟩) hS ?_
        refine wpAnyH_take (i := 20) (v := .pointer (some ⟨g, b * 257, none⟩)) rfl (by kernel_rfl) (by kernel_rfl) (by kernel_rfl) (fun _ _ _ h => h) (Or.inl ⟨by kernel_rfl, fun wx hx => by go_simp⟩) hS ?_
        refine wpAnyH_take (i := 21) (v := .int .i64 y1) rfl (by kernel_rfl) (by kernel_rfl) (by kernel_rfl) (fun _ _ _ h => h) (Or.inl ⟨by kernel_rfl, fun wx hx => by obtain ⟨hx1, hx2, hx3, hx4⟩ := HK.out wx hx; go_simp⟩) hS ?_
        refine wpAnyH_take (i := 22) (v := .bool false) rfl (by kernel_rfl) (by kernel_rfl) (by kernel_rfl) (fun _ _ _ h => h) (Or.inl ⟨by kernel_rfl, fun wx hx => by go_simp⟩) hS ?_
        refine wpAnyH_take (i := 23) (v := .bool false) rfl (by kernel_rfl) (by kernel_rfl) (by kernel_rfl) (fun _ _ _ h => h) (Or.inl ⟨by kernel_rfl, fun _ _ => by kernel_rfl⟩) hS ?_
        refine wpAnyH_take (i := 24) (v := undef) rfl (by kernel_rfl) (by kernel_rfl) (by kernel_rfl) (fun _ _ _ h => h) (Or.inr ⟨by kernel_rfl, rfl⟩) hS ?_
        refine wpAnyH_take (i := 25) (v := undef) rfl (by kernel_rfl) (by kernel_rfl) (by kernel_rfl) (fun _ _ _ h => h) (Or.inr ⟨by kernel_rfl, rfl⟩) hS ?_
        refine wpAnyH_take (i := 26) (v := undef) rfl (by kernel_rfl) (by kernel_rfl) (by kernel_rfl) (fun _ _ _ h => h) (Or.inr ⟨by kernel_rfl, rfl⟩) hS ?_
        refine wpAnyH_take (i := 27) (v := undef) rfl (by kernel_rfl) (by kernel_rfl) (by kernel_rfl) (fun _ _ _ h => h) (Or.inr ⟨by kernel_rfl, rfl⟩) hS ?_
        refine wpAnyH_take (i := 28) (v := undef) rfl (by kernel_rfl) (by kernel_rfl) (by kernel_rfl) (fun _ _ _ h => h) (Or.inr ⟨by kernel_rfl, rfl⟩) hS ?_
        refine wpAnyH_take (i := 29) (v := undef) rfl (by kernel_rfl) (by kernel_rfl) (by kernel_rfl) (fun _ _ _ h => h) (Or.inr ⟨by kernel_rfl, rfl⟩) hS ?_
        refine wpAnyH_take (i := 30) (v := undef) rfl (by kernel_rfl) (by kernel_rfl) (by kernel_rfl) (fun _ _ _ h => h) (Or.inr ⟨by kernel_rfl, rfl⟩) hS ?_
        refine wpAnyH_take (i := 31) (v := undef) rfl (by kernel_rfl) (by kernel_rfl) (by kernel_rfl) (fun _ _ _ h => h) (Or.inr ⟨by kernel_rfl, rfl⟩) hS ?_
        refine wpAnyH_take (i := 32) (v := undef) rfl (by kernel_rfl) (by kernel_rfl) (by kernel_rfl) (fun _ _ _ h => h) (Or.inr ⟨by kernel_rfl, rfl⟩) hS ?_
        refine wpAnyH_take (i := 33) (v := undef) rfl (by kernel_rfl) (by kernel_rfl) (by kernel_rfl) (fun _ _ _ h => h) (Or.inr ⟨by kernel_rfl, rfl⟩) hS ?_
        refine wpAnyH_take (i := 34) (v := undef) rfl (by kernel_rfl) (by kernel_rfl) (by kernel_rfl) (fun _ _ _ h => h) (Or.inr ⟨by kernel_rfl, rfl⟩) hS ?_
        refine wpAnyH_take (i := 35) (v := .bool false) rfl (by kernel_rfl) (by kernel_rfl) (by kernel_rfl) (fun _ _ _ h => h) (Or.inl ⟨by kernel_rfl, fun wx hx => by go_simp⟩) hS ?_
        refine wpAnyH_take (i := 36) (v := .bool false) rfl (by kernel_rfl) (by kernel_rfl) (by kernel_rfl) (fun _ _ _ h => h) (Or.inl ⟨by kernel_rfl, fun wx hx => by go_simp⟩) hS ?_
        refine wpAnyH_done (by kernel_rfl) ?_ _
        go_simp
        go_wp2_with fail
        go_roundg (n - (i + 1))
        case measure => omega
        case rel =>
          refine ⟨i + 1, b, by omega, by omega, by omega, by go_num, rfl, ⟨fun j hj => ?_⟩, ⟨HB.out.drew⟩, HQ⟩
          by_cases e : j = i
          · rw [e]; exact HN.out
          · exact HO.out j (by omega)
    · have hin : i = n := by omega
      have hnlt : ¬ (i : Int) < (n : Int) := by omega
      have Hmin : Hid (∀ j, j < n → ltR (L.getD j r0) (L.getD b r0) = false) := ⟨by rw [← hin]; exact HO.out⟩
      have hbL : b < L.length := by rw [Hn.out]; exact hb
      have hbz : (b : Int) < (n : Int) := by omega
      have hbc : (b : Int) ≤ (c : Int) := by omega
      have HW := Hid.mk (fun w' (hw' : Below w.heap.size w w') => H.out.far (Chg.ofBelow (X := []) hw') (by simp))
      obtain ⟨Y, HY⟩ : ∃ X, Hid (L.getD b r0 = X) := ⟨_, ⟨rfl⟩⟩
      have HYl : Hid (Y.2.length = 256) := ⟨by rw [← HY.out]; exact each54 H.out hbL⟩
      obtain ⟨z, Hz⟩ : ∃ z, Hid (wo.heap.size = z) := ⟨_, ⟨rfl⟩⟩
      have hwz : w.heap.size ≤ z := by rw [← Hz.out]; exact HB.out.size
      have hqz : q < z := by rw [← Hz.out]; exact (Array.getElem?_eq_some_iff.1 HQ.out).1
      have HB3 : Hid (Below wo.heap.size wo (wo.alloc (.cells #[] 54))) := ⟨(Below.refl _ wo).alloc (Nat.le_refl _) _⟩
      have HO3 : Hid (OwnE fe 257 54 (wo.alloc (.cells #[] 54)) z (.slice (some ⟨z, 0, none⟩) 0 0) []) := ⟨by rw [← Hz.out]; exact OwnE.none fe 257 54 wo⟩
      have HS3 : Hid (Below w.heap.size w (wo.alloc (.cells #[] 54))) := ⟨HB.out.trans (HB3.out.mono HB.out.size)⟩
      have HR3 : Hid (RdE fe 257 r0 (wo.alloc (.cells #[] 54)) (.slice (some ⟨g, 0, none⟩) b c) (L.take b)) := ⟨((HW.out _ HS3.out).rd r0).take' Hn.out (by omega)⟩
      have HL4 : Hid ((L.take b).length ≤ 256) := ⟨by rw [List.length_take]; omega⟩
      have HL5 : Hid ((L.drop (b + 1)).length ≤ 256) := ⟨by rw [List.length_drop, Hn.out]; omega⟩
      go_upto_region 8 with (at_builtin; rw [Hz.out]; refine wp_appE (f := fe) (d := r0) (L := []) (M := L.take b) eltR rfl (.tmp 51) (.tmp 54) rfl rfl HO3.out rfl HR3.out (by have := HL4.out; simp only [List.length_nil]; omega) (by have := HL4.out; unfold maxLen; simp only [List.length_nil]; omega) (by rw [← Hz.out]; exact HB3.out.size) ?_; intro v4 w4 hO4 hG4 hV4)
      have HO4 : Hid (OwnE fe 257 54 w4 z v4 (L.take b)) := ⟨hO4⟩
      have hG4' : Chg (ob (.slice (some ⟨z, 0, none⟩) 0 0)) (wo.alloc (.cells #[] 54)) w4 := hG4
      have HB4 : Hid (Below wo.heap.size wo w4) := ⟨HB3.out.trans (hG4'.below HB3.out.size (fun x hx => by simp [ob, Value.ownBlock] at hx; rw [hx, Hz.out]; exact Nat.le_refl z))⟩
      obtain ⟨a4, c4, e4, _⟩ := (HO4.out.rd r0).shape
      subst e4
      obtain ⟨n4, Hn4⟩ : ∃ x, Hid ((L.take b).length = x) := ⟨_, ⟨rfl⟩⟩
      rw [Hn4.out] at HO4 ⊢
      clear hO4 hG4 hG4' hV4
      clear hin
      obtain ⟨b1, Hb1⟩ : ∃ x, Hid (b + 1 = x) := ⟨_, ⟨rfl⟩⟩
      have hb1z : (b : Int) + 1 = (b1 : Int) := by have := Hb1.out; omega
      have hb1n : (b1 : Int) ≤ (n : Int) := by have := Hb1.out; omega
      have hb1w : IntKind.i64.wrap (b1 : Int) = (b1 : Int) := IntWalk.i64_in _ ⟨by omega, by omega⟩
      have HS4 : Hid (Below w.heap.size w w4.drew) := ⟨(HB.out.trans (HB4.out.mono HB.out.size)).drew⟩
      have HQ4 : Hid (w4.drew.heap[q]? = some (.cells (ra r0) 54 (0, 0))) := ⟨below_at HB4.out.drew HQ.out⟩
      have HO4d : Hid (OwnE fe 257 54 w4.drew z (.slice a4 n4 c4) (L.take b)) := ⟨HO4.out.far (X := []) (Chg.refl _ _).drew (by simp)⟩
      refine wp_region_held_drew (S := fun w' => Below w.heap.size w w') (by kernel_rfl) HS4.out (fun hS => ?_)
      by_cases hcb : c = b1
      · have hcn : c = n := by have := Hb1.out; omega
        have hbn1 : b1 = n := by omega
        subst hbn1
        subst hcn
        have HRx : Hid (∀ wx, Below w.heap.size w wx → RdE fe 257 r0 wx (.slice (some ⟨g, 0, none⟩) 0 0) (L.drop (b + 1))) := ⟨fun wx hwx => by
          rw [List.drop_eq_nil_of_le (by rw [Hn.out]; have := Hb1.out; omega)]
          exact RdE.none' (Nat.zero_le _) (by simp)⟩
        have HR4d := Hid.mk (HRx.out _ HS4.out)
        clear hcb hnlt
        refine wpAnyH_take (i := 0) (v := .slice (some ⟨g, 0, none⟩) c c) rfl (by kernel_rfl) (by kernel_rfl) (by kernel_rfl) (fun _ _ _ h => h) (Or.inl ⟨by kernel_rfl, fun _ _ => by kernel_rfl⟩) hS ?_
        refine wpAnyH_take (i := 1) (v := .int .i64 (b : Int)) rfl (by kernel_rfl) (by kernel_rfl) (by kernel_rfl) (fun _ _ _ h => h) (Or.inl ⟨by kernel_rfl, fun _ _ => by kernel_rfl⟩) hS ?_
        refine wpAnyH_take (i := 2) (v := .pointer (some ⟨g, b * 257, none⟩)) rfl (by kernel_rfl) (by kernel_rfl) (by kernel_rfl) (fun _ _ _ h => h) (Or.inl ⟨by kernel_rfl, fun wx hx => by go_simp⟩) hS ?_
        refine wpAnyH_take (i := 3) (v := .agg (ra Y)) rfl (by kernel_rfl) (by kernel_rfl) (by kernel_rfl) (fun _ _ _ h => h) (yieldsIf_load_mid (by kernel_rfl) 54 (.tmp 58) rfl g (b * 257) (by kernel_rfl) (fe Y) _ (fun wx hx => by have e := range54 (HW.out wx hx) hbL; rw [HY.out] at e; exact e) Try.underlying54 rfl (by rw [fe_len HYl.out]; exact info54)) hS ?_
        refine wpAnyH_take (i := 4) (v := .slice a4 n4 c4) rfl (by kernel_rfl) (by kernel_rfl) (by kernel_rfl) (fun _ _ _ h => h) (Or.inl ⟨by kernel_rfl, fun _ _ => by kernel_rfl⟩) hS ?_
        refine wpAnyH_take (i := 5) (v := .slice (some ⟨g, 0, none⟩) c c) rfl (by kernel_rfl) (by kernel_rfl) (by kernel_rfl) (fun _ _ _ h => h) (Or.inl ⟨by kernel_rfl, fun _ _ => by kernel_rfl⟩) hS ?_
        refine wpAnyH_take (i := 6) (v := .int .i64 (b : Int)) rfl (by kernel_rfl) (by kernel_rfl) (by kernel_rfl) (fun _ _ _ h => h) (Or.inl ⟨by kernel_rfl, fun _ _ => by kernel_rfl⟩) hS ?_
        refine wpAnyH_take (i := 7) (v := .int .i64 (c : Int)) rfl (by kernel_rfl) (by kernel_rfl) (by kernel_rfl) (fun _ _ _ h => h) (Or.inl ⟨by kernel_rfl, fun wx hx => by go_simp⟩) hS ?_
        refine wpAnyH_take (i := 8) (v := .slice (some ⟨g, 0, none⟩) 0 0) rfl (by kernel_rfl) (by kernel_rfl) (by kernel_rfl) (fun _ _ _ h => h) (Or.inl ⟨by kernel_rfl, fun wx hx => by go_simp⟩) hS ?_
        refine wpAnyH_ready (rs := [9]) (by kernel_rfl) (by simp) (AllReadyH.cons rfl (fun Kc hK => ?_) AllReadyH.nil)
        refine rdy_of (by kernel_rfl) ?_
        refine op_appE (f := fe) (d := r0) eltR (.tmp 60) (.tmp 64) rfl (by kernel_rfl) HO4d.out (by kernel_rfl) HR4d.out (by have := HL4.out; have := HL5.out; omega) (by have := HL4.out; have := HL5.out; unfold maxLen; omega) (by rw [← Hz.out]; exact HB4.out.size) ?_
        intro v5 w5 hO5 hG5 hV5
        have HB5 : Hid (Below z w4.drew w5) := ⟨hG5.below (by rw [← Hz.out]; exact HB4.out.size) (fun x hx => (HO4d.out.lt x hx).1)⟩
        have HS5 : Hid (Below w.heap.size w w5) := ⟨HS4.out.trans (HB5.out.mono hwz)⟩
        have HQ5 : Hid (w5.heap[q]? = some (.cells (ra r0) 54 (0, 0))) := ⟨(HB5.out.block q hqz).trans HQ4.out⟩
        have HO5 := Hid.mk hO5
        obtain ⟨a5, c5, e5, _⟩ := (hO5.rd r0).shape
        subst e5
        obtain ⟨n5, Hn5⟩ : ∃ x, Hid ((L.take b ++ L.drop (b + 1)).length = x) := ⟨_, ⟨rfl⟩⟩
        rw [Hn5.out] at HO5 ⊢
        obtain ⟨v5, Hv5⟩ : ∃ v, Hid (Value.slice a5 n5 c5 = v) := ⟨_, ⟨rfl⟩⟩
        rw [Hv5.out] at HO5 ⊢
        refine hK.out _ _ HS5.out (fun hS => ?_)
        clear hK hO5 hG5 hV5
        (try go_simp)
        refine wpAnyH_ready (rs := [10]) (by kernel_rfl) (by simp) (AllReadyH.cons rfl (fun Kc hK => ?_) AllReadyH.nil)
        refine rdy_of (by kernel_rfl) ?_
        refine wp_store_row 54 (.tmp 2) (.tmp 59) rfl q (ra Y) (by kernel_rfl) (by kernel_rfl) 54 (ra r0) HQ5.out (info54f HYl.out) (by rw [ra_size HYl.out, ra_size r0_len]) (ra_one Y) ?_
        obtain ⟨U, HU⟩ : ∃ x, Hid (w5.setRow q (ra Y) = x) := ⟨_, ⟨rfl⟩⟩
        rw [HU.out]
        have HQU : Hid (U.heap[q]? = some (.cells (ra Y) 54 (0, 0))) := ⟨by rw [← HU.out]; exact setRow_heap w5 q (ra r0) _ 54 (0, 0) HQ5.out⟩
        have HBU : Hid (Below w.heap.size w U) := ⟨by rw [← HU.out]; exact below_setRow HS5.out (by rw [Hq.out]; exact Nat.le_refl q) _⟩
        have HCU : Hid (Chg [q] w5 U) := ⟨by rw [← HU.out]; exact ⟨rfl, rfl, rfl, by simp, fun k _ hx => setRow_other _ _ k _ (by simpa using hx)⟩⟩
        have HOU : Hid (OwnE fe 257 54 U w.heap.size v5 (L.take b ++ L.drop (b + 1))) := ⟨(HO5.out.far HCU.out (fun x hx hm => by simp at hm; have := (HO5.out.lt x hx).1; omega)).base hwz⟩
        refine hK.out _ _ HBU.out (fun hS => ?_)
        clear hK
        refine wpAnyH_take (i := 11) (v := v5) rfl (by kernel_rfl) (by kernel_rfl) (by kernel_rfl) (fun _ _ _ h => h) (Or.inl ⟨by kernel_rfl, fun _ _ => by kernel_rfl⟩) hS ?_
        refine wpAnyH_done (by kernel_rfl) ?_ _
        go_simp
        go_wp2_with fail
        (try simp only [Exit.inBlock, Exit.then])
        refine bodyPost_ret (results_ct rfl _ _ rfl (run_loadA 54 U q (ra Y) 54 (0, 0) _ HQU.out Try.underlying54 rfl (info54f HYl.out))) rfl ?_
        exact ⟨b, v5, hb, Hmin.out, by rw [HY.out]; rfl, HOU.out, HBU.out⟩
      · obtain ⟨n2, Hn2⟩ : ∃ x, Hid (n - b1 = x) := ⟨_, ⟨rfl⟩⟩
        obtain ⟨c2, Hc2⟩ : ∃ x, Hid (c - b1 = x) := ⟨_, ⟨rfl⟩⟩
        have HRx : Hid (∀ wx, Below w.heap.size w wx → RdE fe 257 r0 wx (.slice (some ⟨g, b1 * 257, none⟩) n2 c2) (L.drop (b + 1))) := ⟨fun wx hwx => by
          have := ((HW.out wx hwx).rd r0).drop' Hn.out (j := b1) (by omega)
          rw [Nat.zero_add, Hn2.out, Hc2.out] at this
          rw [Hb1.out]; exact this⟩
        have HR4d := Hid.mk (HRx.out _ HS4.out)
        have hcb2 : ¬ b1 = c := fun e => hcb e.symm
        have hn2 := Hn2.out
        have hc2 := Hc2.out
        have hcb3 : ¬ (c : Int) - (b1 : Int) = 0 := by omega
        have hnn : (n : Int) - (b1 : Int) = (n2 : Int) := by have := Hn2.out; omega
        have hcc : (c : Int) - (b1 : Int) = (c2 : Int) := by have := Hc2.out; omega
        clear hnlt
        refine wpAnyH_take (i := 0) (v := .slice (some ⟨g, 0, none⟩) n c) rfl (by kernel_rfl) (by kernel_rfl) (by kernel_rfl) (fun _ _ _ h => h) (Or.inl ⟨by kernel_rfl, fun _ _ => by kernel_rfl⟩) hS ?_
        refine wpAnyH_take (i := 1) (v := .int .i64 (b : Int)) rfl (by kernel_rfl) (by kernel_rfl) (by kernel_rfl) (fun _ _ _ h => h) (Or.inl ⟨by kernel_rfl, fun _ _ => by kernel_rfl⟩) hS ?_
        refine wpAnyH_take (i := 2) (v := .pointer (some ⟨g, b * 257, none⟩)) rfl (by kernel_rfl) (by kernel_rfl) (by kernel_rfl) (fun _ _ _ h => h) (Or.inl ⟨by kernel_rfl, fun wx hx => by go_simp⟩) hS ?_
        refine wpAnyH_take (i := 3) (v := .agg (ra Y)) rfl (by kernel_rfl) (by kernel_rfl) (by kernel_rfl) (fun _ _ _ h => h) (yieldsIf_load_mid (by kernel_rfl) 54 (.tmp 58) rfl g (b * 257) (by kernel_rfl) (fe Y) _ (fun wx hx => by have e := range54 (HW.out wx hx) hbL; rw [HY.out] at e; exact e) Try.underlying54 rfl (by rw [fe_len HYl.out]; exact info54)) hS ?_
        refine wpAnyH_take (i := 4) (v := .slice a4 n4 c4) rfl (by kernel_rfl) (by kernel_rfl) (by kernel_rfl) (fun _ _ _ h => h) (Or.inl ⟨by kernel_rfl, fun _ _ => by kernel_rfl⟩) hS ?_
        refine wpAnyH_take (i := 5) (v := .slice (some ⟨g, 0, none⟩) n c) rfl (by kernel_rfl) (by kernel_rfl) (by kernel_rfl) (fun _ _ _ h => h) (Or.inl ⟨by kernel_rfl, fun _ _ => by kernel_rfl⟩) hS ?_
        refine wpAnyH_take (i := 6) (v := .int .i64 (b : Int)) rfl (by kernel_rfl) (by kernel_rfl) (by kernel_rfl) (fun _ _ _ h => h) (Or.inl ⟨by kernel_rfl, fun _ _ => by kernel_rfl⟩) hS ?_
        refine wpAnyH_take (i := 7) (v := .int .i64 (b1 : Int)) rfl (by kernel_rfl) (by kernel_rfl) (by kernel_rfl) (fun _ _ _ h => h) (Or.inl ⟨by kernel_rfl, fun wx hx => by go_simp⟩) hS ?_
        refine wpAnyH_take (i := 8) (v := .slice (some ⟨g, b1 * 257, none⟩) n2 c2) rfl (by kernel_rfl) (by kernel_rfl) (by kernel_rfl) (fun _ _ _ h => h) (Or.inl ⟨by kernel_rfl, fun wx hx => by go_simp⟩) hS ?_
        refine wpAnyH_ready (rs := [9]) (by kernel_rfl) (by simp) (AllReadyH.cons rfl (fun Kc hK => ?_) AllReadyH.nil)
        refine rdy_of (by kernel_rfl) ?_
        refine op_appE (f := fe) (d := r0) eltR (.tmp 60) (.tmp 64) rfl (by kernel_rfl) HO4d.out (by kernel_rfl) HR4d.out (by have := HL4.out; have := HL5.out; omega) (by have := HL4.out; have := HL5.out; unfold maxLen; omega) (by rw [← Hz.out]; exact HB4.out.size) ?_
        intro v5 w5 hO5 hG5 hV5
        have HB5 : Hid (Below z w4.drew w5) := ⟨hG5.below (by rw [← Hz.out]; exact HB4.out.size) (fun x hx => (HO4d.out.lt x hx).1)⟩
        have HS5 : Hid (Below w.heap.size w w5) := ⟨HS4.out.trans (HB5.out.mono hwz)⟩
        have HQ5 : Hid (w5.heap[q]? = some (.cells (ra r0) 54 (0, 0))) := ⟨(HB5.out.block q hqz).trans HQ4.out⟩
        have HO5 := Hid.mk hO5
        obtain ⟨a5, c5, e5, _⟩ := (hO5.rd r0).shape
        subst e5
        obtain ⟨n5, Hn5⟩ : ∃ x, Hid ((L.take b ++ L.drop (b + 1)).length = x) := ⟨_, ⟨rfl⟩⟩
        rw [Hn5.out] at HO5 ⊢
        obtain ⟨v5, Hv5⟩ : ∃ v, Hid (Value.slice a5 n5 c5 = v) := ⟨_, ⟨rfl⟩⟩
        rw [Hv5.out] at HO5 ⊢
        refine hK.out _ _ HS5.out (fun hS => ?_)
        clear hK hO5 hG5 hV5
        (try go_simp)
        refine wpAnyH_ready (rs := [10]) (by kernel_rfl) (by simp) (AllReadyH.cons rfl (fun Kc hK => ?_) AllReadyH.nil)
        refine rdy_of (by kernel_rfl) ?_
        refine wp_store_row 54 (.tmp 2) (.tmp 59) rfl q (ra Y) (by kernel_rfl) (by kernel_rfl) 54 (ra r0) HQ5.out (info54f HYl.out) (by rw [ra_size HYl.out, ra_size r0_len]) (ra_one Y) ?_
        obtain ⟨U, HU⟩ : ∃ x, Hid (w5.setRow q (ra Y) = x) := ⟨_, ⟨rfl⟩⟩
        rw [HU.out]
        have HQU : Hid (U.heap[q]? = some (.cells (ra Y) 54 (0, 0))) := ⟨by rw [← HU.out]; exact setRow_heap w5 q (ra r0) _ 54 (0, 0) HQ5.out⟩
        have HBU : Hid (Below w.heap.size w U) := ⟨by rw [← HU.out]; exact below_setRow HS5.out (by rw [Hq.out]; exact Nat.le_refl q) _⟩
        have HCU : Hid (Chg [q] w5 U) := ⟨by rw [← HU.out]; exact ⟨rfl, rfl, rfl, by simp, fun k _ hx => setRow_other _ _ k _ (by simpa using hx)⟩⟩
        have HOU : Hid (OwnE fe 257 54 U w.heap.size v5 (L.take b ++ L.drop (b + 1))) := ⟨(HO5.out.far HCU.out (fun x hx hm => by simp at hm; have := (HO5.out.lt x hx).1; omega)).base hwz⟩
        refine hK.out _ _ HBU.out (fun hS => ?_)
        clear hK
        refine wpAnyH_take (i := 11) (v := v5) rfl (by kernel_rfl) (by kernel_rfl) (by kernel_rfl) (fun _ _ _ h => h) (Or.inl ⟨by kernel_rfl, fun _ _ => by kernel_rfl⟩) hS ?_
        refine wpAnyH_done (by kernel_rfl) ?_ _
        go_simp
        go_wp2_with fail
        (try simp only [Exit.inBlock, Exit.then])
        refine bodyPost_ret (results_ct rfl _ _ rfl (run_loadA 54 U q (ra Y) 54 (0, 0) _ HQU.out Try.underlying54 rfl (info54f HYl.out))) rfl ?_
        exact ⟨b, v5, hb, Hmin.out, by rw [HY.out]; rfl, HOU.out, HBU.out⟩
end
end Go.Proofs.Ytfecngncapenjaa
