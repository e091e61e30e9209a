/- Branches of the words of lengths: branchesOf. -/
import Derived.Test.YtfecngncapenjaaGb
import Derived.Test.YtfecngncapenjaaP3
import Derived.Test.YtfecngncapenjaaR3
import Derived.Test.YtfecngncapenjaaV1
namespace Go.Proofs.Ytfecngncapenjaa
open Go.RowKit Oct Go.Lib

theorem ws_txt {f : List Int} (hr0 : hr f = true) {i : Nat} (hi : i < 256) : (ws f).getD i ByteArray.empty = txt (wbt f i) := by
  rw [(ws_at hr0 hi).2]
  by_cases h : 1 ≤ ln f i
  · rw [if_pos h]; rfl
  · rw [if_neg h]
    unfold wbt
    rw [show ln f i = 0 by omega]; rfl
theorem wbt_few {f : List Int} (hr0 : hr f = true) {i : Nat} (hi : i < 256) : (wbt f i).length ≤ 60 := by rw [wbt_len]; exact (ws_at hr0 hi).1
/-- No word of bits begins another one. -/
theorem wbt_apart {f : List Int} (hf : f.length = 256) (hr0 : hr f = true) {i k : Nat} (hi : i < 256) (hk : k < 256) (hik : i ≠ k) (hne : wbt f i ≠ []) : ¬ wbt f i <+: wbt f k := fun h => by
  have e1 := ws_txt hr0 hi
  have e2 := ws_txt hr0 hk
  refine no_begin hf hr0 hi hk hik ?_ ?_ ?_
  · rw [e1, txt_size]; exact List.length_pos_iff.2 hne
  · rw [e1, e2, txt_size, txt_size]; exact h.length_le
  · rw [e1, e2, txt_size, txt_take]
    exact congrArg txt (List.prefix_iff_eq_take.1 h).symm
theorem toList_empty : ByteArray.toList { data := #[] } = [] := by
  rw [ByteArray.toList, ByteArray.toList.loop]
  rfl
theorem own_newB (w : World) : OwnE be 4 99 (w.alloc (.cells (be br0).toArray 99)) w.heap.size (.slice (some ⟨w.heap.size, 0, none⟩) 1 1) [br0] :=
  ⟨⟨rfl, .inr ⟨w.heap.size, 1, (be br0).toArray, rfl, Nat.le_refl _, heap_alloc_new w _, Nat.le_refl _, by unfold maxLen; omega, rfl, rfl⟩⟩, fun x _ => ⟨rfl, be_one x⟩⟩
theorem run_idxS (w : World) {f : List ByteArray} (hf : f.length = 256) (i : Nat) (h : i < 256) : (Instr.index 28 (.agg (sa f)) (.int .i64 (i : Int))).run Try.prog w = .ok (.string (f.getD i ByteArray.empty)) w := by
  unfold Instr.index
  have hp : (part 9 (sa f) (i * 1)).run Try.prog w = .ok (.string (f.getD i ByteArray.empty)) w := part9 w hf i h
  have has : (asIntOf (.int .i64 (i : Int))).run Try.prog w = .ok (.i64, (i : Int)) w := rfl
  simp only [Sem.run_bind, has, Result.andThen_ok, run_underlying Try.underlying28]
  rw [if_pos (by omega)]
  simp only [Sem.run_bind, size9, Result.andThen_ok, Int.toNat_natCast]
  exact hp
section
variable {ops : Array Oper} {rest : List Oper} {o : Oper} {a : Act} {w : World} {Q : Exit → Act → World → Prop}
theorem wp_idxS {f : List ByteArray} (hgd : o.guard = none) (x y : Operand) (ho : o.op = .index 28 x y) (hx : a.eval x = .agg (sa f)) (i : Nat) (hy : a.eval y = .int .i64 (i : Int)) (hf : f.length = 256) (hi : i < 256)
    (h : wpList Try.prog ops Q rest (a.put o.dst (.string (f.getD i ByteArray.empty))) w) : wpList Try.prog ops Q (o :: rest) a w := by
  refine wpList_plain hgd fun K hK => ?_
  unfold Oper.wp execOp
  simp only [ho, hx, hy, run_idxS w hf i hi, Sem.run_bind, Sem.run_pure, Result.andThen_ok]
  exact hK _ _ h
end
section
variable {w : World}
set_option maxHeartbeats 16000000 in
set_option maxRecDepth 100000 in
theorem branches47 (f : List Int) (hf : f.length = 256) (hr0 : hr f = true) : Calls Try.prog 47 #[.agg (sa (ws f))] w fun e w' => ∃ v L P, e = .returned v ∧ OwnE be 4 99 w' w.heap.size v L ∧ Tw (wbt f) 256 L P ∧ L.length ≤ 20000 ∧ Below w.heap.size w w' := by
  have HR := Hid.mk hr0
  have HF := Hid.mk hf
  have hwl : (ws f).length = 256 := wls_len f 61 0
  have Hwl := Hid.mk hwl
  obtain ⟨q, Hq⟩ : ∃ q, Hid (w.heap.size = q) := ⟨_, ⟨rfl⟩⟩
  obtain ⟨A, HA⟩ : ∃ A, Hid (sa (ws f) = A) := ⟨_, ⟨rfl⟩⟩
  have HI : Hid ((Try.prog.info? 28).map (·.size) = some A.size) := ⟨by rw [← HA.out]; exact info28f hwl⟩
  rw [HA.out]
  obtain ⟨w1, Hw1⟩ : ∃ x, Hid (w.alloc (.cells A 28) = x) := ⟨_, ⟨rfl⟩⟩
  have HB1 : Hid (Below q w w1) := ⟨by rw [← Hw1.out, ← Hq.out]; exact (Below.refl _ w).alloc (Nat.le_refl _) _⟩
  have HX1 : Hid (w1.heap[q]? = some (.cells A 28 (0, 0))) := ⟨by rw [← Hw1.out, ← Hq.out]; exact heap_alloc_new w _⟩
  have HS1 : Hid (w1.heap.size = q + 1) := ⟨by rw [← Hw1.out, ← Hq.out]; exact Array.size_push _⟩
  obtain ⟨w2, Hw2⟩ : ∃ x, Hid (w1.alloc (.cells (be br0).toArray 99) = x) := ⟨_, ⟨rfl⟩⟩
  have HB12 : Hid (Below w1.heap.size w1 w2) := ⟨by rw [← Hw2.out]; exact (Below.refl _ w1).alloc (Nat.le_refl _) _⟩
  have HS2 : Hid (w2.heap.size = q + 2) := ⟨by rw [← Hw2.out]; have : (w1.alloc (.cells (be br0).toArray 99)).heap.size = w1.heap.size + 1 := Array.size_push _; rw [this, HS1.out]⟩
  have HO2 : Hid (OwnE be 4 99 w2 (q + 1) (.slice (some ⟨q + 1, 0, none⟩) 1 1) [br0]) := ⟨by
    rw [← Hw2.out, ← HS1.out]
    exact own_newB w1⟩
  have HX2 := Hid.mk (below_at HB12.out HX1.out)
  obtain ⟨w3, Hw3⟩ : ∃ x, Hid (w2.alloc (.cells #[.slice (some ⟨q + 1, 0, none⟩) 1 1] 86) = x) := ⟨_, ⟨rfl⟩⟩
  clear hf hr0 hwl
  go_enter Try.func47, Try.ntmps47
  go_upto_region 2 with (first | (refine wp_box rfl 28 (.tmp 0) rfl A rfl ?_; rw [Hw1.out]) | (refine wp_zero99 rfl rfl ?_) | (refine wp_sliceE eltB rfl (.tmp 7) rfl (be br0).toArray rfl rfl (by decide) ?_; rw [Hw2.out, HS1.out]))
  have HB23 : Hid (Below w2.heap.size w2 w3) := ⟨by rw [← Hw3.out]; exact (Below.refl _ w2).alloc (Nat.le_refl _) _⟩
  have HX3 := Hid.mk (below_at HB23.out HX2.out)
  have HP3 : Hid (w3.heap[q + 2]? = some (.cells #[.slice (some ⟨q + 1, 0, none⟩) 1 1] 86 (0, 0))) := ⟨by rw [← Hw3.out, ← HS2.out]; exact heap_alloc_new w2 _⟩
  have HO3 : Hid (OwnE be 4 99 w3 (q + 1) (.slice (some ⟨q + 1, 0, none⟩) 1 1) [br0]) := ⟨HO2.out.far (Chg.ofBelow (X := []) HB23.out) (by simp)⟩
  have HB3 : Hid (Below q w w3) := ⟨(HB1.out.trans (HB12.out.mono (by rw [HS1.out]; omega))).trans (HB23.out.mono (by rw [HS2.out]; omega))⟩
  have HW3 : Hid (BrB w3 (q + 1) (q + 2) [br0]) := ⟨⟨_, HP3.out, HO3.out⟩⟩
  have HT3 : Hid (∃ P, Tw (wbt f) 0 [br0] P) := ⟨⟨_, Tw.zero _⟩⟩
  have HS3 : Hid (q + 1 ≤ w3.heap.size) := ⟨by have := HB23.out.size; have := HS2.out; omega⟩
  rw [Hw3.out, HS2.out, Hq.out]
  clear HB23 HB12 HX2 HX1 HB1 HO2 HO3 HP3
  go_upto_region 3 with (refine wp_load rfl 28 (.tmp 1) rfl q rfl A 28 (0, 0) _ HX3.out Try.underlying28 rfl HI.out ?_)
  go_loopg [4, 5, 6, 10] 256 (fun gg _s4 _s5 _s6 s10 wr => ∃ (c : Nat) (L : List Br), c ≤ 256 ∧ 256 - c ≤ gg ∧ s10 = .int .i64 (c : Int) ∧ Hid (BrB wr (q + 1) (q + 2) L) ∧ Hid (∃ P, Tw (wbt f) c L P) ∧ Hid (L.length ≤ 1 + 60 * c) ∧ Hid (Below q w wr) ∧ Hid (q + 1 ≤ wr.heap.size))
  case atStart => exact ⟨0, _, Nat.zero_le _, by omega, rfl, HW3, HT3, ⟨Nat.le_refl _⟩, HB3, HS3⟩
  case round =>
    clear HW3 HT3 HB3 HS3
    obtain ⟨c, L, hc, hgg, rfl, HW, HT, HL, HB, HS⟩ := hrel
    rename World => wo
    by_cases hct : c < 256
    · have hctz : (c : Int) < 256 := by omega
      have HWs : Hid ((ws f).getD c ByteArray.empty = txt (wbt f c)) := ⟨ws_txt HR.out hct⟩
      have HBW : Hid (BW (txt (wbt f c)) (wbt f c)) := ⟨str_bw (wbt_bin f c)⟩
      have Hfew : Hid ((wbt f c).length ≤ 60) := ⟨wbt_few HR.out hct⟩
      by_cases hn : wbt f c = []
      · have HTn : Hid (∃ P, Tw (wbt f) (c + 1) L P) := ⟨by obtain ⟨P, h⟩ := HT.out; exact ⟨P, h.skip hn⟩⟩
        rw [hn] at HWs
        have HWe : Hid ((ws f).getD c ByteArray.empty = { data := #[] }) := HWs
        go_wp2_with (rw [← HA.out]; refine wp_idxS rfl (.tmp 9) (.tmp 10) rfl rfl c rfl Hwl.out hct ?_; rw [HWe.out, HA.out])
        go_roundg (256 - (c + 1))
        case measure => omega
        case rel => exact ⟨c + 1, L, by omega, by omega, by go_num, HW, HTn, ⟨by have := HL.out; omega⟩, HB, HS⟩
      · obtain ⟨str, Hstr⟩ : ∃ x, Hid (txt (wbt f c) = x) := ⟨_, ⟨rfl⟩⟩
        rw [Hstr.out] at HWs HBW
        have hne : str.toList.isEmpty = false := by
          cases hl : str.toList with
          | nil =>
            have h1 := toList_beq str { data := #[] }
            rw [hl] at h1
            have h2 := of_decide_eq_true (h1.symm.trans (by rw [toList_empty]; rfl))
            have h3 := HBW.out.size
            rw [h2] at h3
            exact absurd (List.length_eq_zero_iff.1 h3.symm) hn
          | cons x r => rfl
        go_upto_region 6 with (rw [← HA.out]; refine wp_idxS rfl (.tmp 9) (.tmp 10) rfl rfl c rfl Hwl.out hct ?_; rw [HWs.out, HA.out])
        obtain ⟨P, hTw⟩ := HT.out
        have hdist : ∀ k, k < c → wbt f k ≠ wbt f c := fun k hk e => wbt_apart HF.out HR.out (i := c) (k := k) hct (by omega) (by omega) hn (by rw [e]; exact List.prefix_refl _)
        obtain ⟨hadd, hat, hml⟩ := hTw.add (fun b hb => wbt_bin f c b hb) hn hdist
        have t1 := lead54 (w := wo) (q + 1) (q + 2) L str (wbt f c) HW.out HBW.out HS.out (by omega) (by have := HL.out; have := Hfew.out; omega) (fun k hk => by
          obtain ⟨P', h1, h2⟩ := (hTw.begin (wbt f c)).run (fun b hb => wbt_bin f c b hb) k hk
          exact ⟨h1.at', h2⟩)
        unfold addW at hadd
        obtain ⟨M, HM⟩ : ∃ x, Hid ((ld (L, 0) (wbt f c)).1 = x) := ⟨_, ⟨rfl⟩⟩
        obtain ⟨a, Ha⟩ : ∃ x, Hid ((ld (L, 0) (wbt f c)).2 = x) := ⟨_, ⟨rfl⟩⟩
        rw [HM.out, Ha.out] at hadd hat t1
        rw [HM.out] at hml
        have HAdd := Hid.mk hadd
        have HMl : Hid (M.length ≤ 1 + 60 * (c + 1)) := ⟨by have := HL.out; have := Hfew.out; omega⟩
        clear hdist hadd hml
        go_wp2_with fail
        refine t1.mono ?_
        rintro e w5 ⟨rfl, hW5, hB5⟩
        have HB5 : Hid (Below q w w5) := ⟨HB.out.trans (hB5.mono (by omega))⟩
        have HS5 : Hid (q + 1 ≤ w5.heap.size) := ⟨Nat.le_trans HS.out hB5.size⟩
        obtain ⟨v, hp, hO⟩ := hW5
        have HP := Hid.mk hp
        obtain ⟨g, cc, e, hMc, hcm⟩ := own_partsB hO (by omega)
        subst e
        have HO := Hid.mk hO
        obtain ⟨n, Hn⟩ : ∃ x, Hid (M.length = x) := ⟨_, ⟨rfl⟩⟩
        rw [Hn.out] at HO HP hat hMc
        have halz : (a : Int) < (n : Int) := by omega
        have hcx : cc ≤ 9223372036854775807 := hcm
        have hcb : (c : Int) % 256 = (c : Int) := by omega
        have hgp : g ≠ q + 2 := fun e => Ty.ne (e := 99) (f := 86) (own_ty HO.out.own (g := g) rfl) ⟨_, HP.out⟩ (by decide) e
        have hbg : q + 1 ≤ g := (HO.out.lt g (mem_ob.2 rfl)).1
        clear t1 hp hO hB5
        have d0 : w5.cell? ⟨q + 2, 0, none⟩ = some (.slice (some ⟨g, 0, none⟩) n cc) := by rw [cell_of_row _ _ _ _ _ _ HP.out]; rfl
        obtain ⟨Y, HY⟩ : ∃ x, Hid (M.getD a br0 = x) := ⟨_, ⟨rfl⟩⟩
        have d2 : w5.cell? ⟨g, a * 4 + 2, none⟩ = some (.bool Y.2.2.1) := by
          rw [own_cellE HO.out br0 (by rw [Hn.out]; exact hat) (by decide), HY.out]; rfl
        have f2 : w5.frozen? ⟨g, a * 4 + 2, none⟩ = false := own_frozenB HO.out _
        have HO1 : Hid (OwnE be 4 99 (w5.setCell ⟨g, a * 4 + 2, none⟩ (.bool true)) (q + 1) (.slice (some ⟨g, 0, none⟩) n cc) (M.set a (Y.1, Y.2.1, true, Y.2.2.2))) := ⟨own_setB HO.out Hn.out (by rw [Hn.out]; exact hat) (by decide) (by rw [HY.out]; rfl)⟩
        have d3 : (w5.setCell ⟨g, a * 4 + 2, none⟩ (.bool true)).cell? ⟨g, a * 4 + 3, none⟩ = some (.int .u8 (Y.2.2.2 : Nat)) := by
          rw [own_cellE HO1.out br0 (by rw [List.length_set, Hn.out]; exact hat) (by decide), getD_set br0 M _ (by rw [Hn.out]; exact hat), if_pos rfl]; rfl
        have f3 : (w5.setCell ⟨g, a * 4 + 2, none⟩ (.bool true)).frozen? ⟨g, a * 4 + 3, none⟩ = false := own_frozenB HO1.out _
        go_wp2_with fail
        go_roundg (256 - (c + 1))
        case measure => omega
        case rel =>
          refine ⟨c + 1, M.set a (mark Y c), by omega, by omega, by go_num, ⟨⟨.slice (some ⟨g, 0, none⟩) n cc, ?_, ?_⟩⟩, ⟨by have := HAdd.out; rw [HY.out] at this; exact this⟩, ⟨by rw [List.length_set]; exact HMl.out⟩, ⟨(HB5.out.setCell (p := ⟨g, a * 4 + 2, none⟩) (by show q ≤ g; omega) _).setCell (p := ⟨g, a * 4 + 3, none⟩) (by show q ≤ g; omega) _⟩, ⟨by have := HS5.out; simpa using this⟩⟩
          · rw [heap_setCell_other _ _ _ _ (fun e => hgp e.symm), heap_setCell_other _ _ _ _ (fun e => hgp e.symm)]; exact HP.out
          · have h1 := own_setB (y := mark Y c) (u := .int .u8 (c : Int)) HO1.out (by rw [List.length_set, Hn.out]) (i := a) (j := 3) (by rw [List.length_set, Hn.out]; exact hat) (by decide) (by rw [getD_set br0 M _ (by rw [Hn.out]; exact hat), if_pos rfl]; rfl)
            rw [List.set_set] at h1
            exact h1
    · obtain rfl : c = 256 := by omega
      obtain ⟨v, hp, hO⟩ := HW.out
      have d1 : wo.cell? ⟨q + 2, 0, none⟩ = some v := by rw [cell_of_row _ _ _ _ _ _ hp]; rfl
      have HO := Hid.mk hO
      clear hp hO
      go_wp2_with fail
      go_ret
      obtain ⟨P, h⟩ := HT.out
      exact ⟨v, L, P, rfl, by rw [Hq.out]; exact HO.out.base (by omega), h, by have := HL.out; omega, by rw [Hq.out]; exact HB.out⟩
end
end Go.Proofs.Ytfecngncapenjaa
