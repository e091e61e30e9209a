/- The piece at a place: takePiece. -/
import Derived.Test.YtoneepoaodoijaaQ2
namespace Go.Proofs.Ytoneepoaodoijaa
open Go.RowKit Go.Lib Oct

theorem add_add (g o i : Nat) : (⟨g, o, none⟩ : Addr).add i = ⟨g, o + i, none⟩ := by unfold Addr.add; split <;> simp_all
theorem rdy_bs {w : World} {v : Value} {l : List Int} (h : RdY w v l) : Bs w v l := by
  obtain ⟨a, cap, e, h1, h2, h3, h4⟩ := h
  rw [yv_len] at e h1 h4
  exact ⟨a, cap, e, h1, h2, h3, fun x hx i hi => (h4 x hx i hi).trans (yv_get l hi)⟩
theorem results_rtt {P : Program} {fn : Func} {p u u' : Tmp} {ty : TypeId} (h : fn.results = #[.cell p ty, .tmp u, .tmp u']) (tmps : Array Value) (w : World) (g : Nat) (t : TypeId) (cs : Array Value) (fr : Nat × Nat) (d : TypeDesc)
    (hp : tmps.getD p undef = .pointer (some ⟨g, 0, none⟩)) (hg : w.heap[g]? = some (.cells cs t fr))
    (hu : P.underlying ty = some d) (hd : (match d with | .struct _ | .array _ _ => true | _ => false) = true) (hi : (P.info? ty).map (·.size) = some cs.size) :
    (results fn tmps).run P w = .ok (.tuple #[.agg cs, tmps.getD u undef, tmps.getD u' undef]) w := by
  have hp' : tmps[p]?.getD undef = .pointer (some ⟨g, 0, none⟩) := by simpa using hp
  simp [results, h, hp', asAddr, run_loadVar_row w g t ty cs fr d hg hu hd hi]
theorem rdY_sub {w : World} {g o n c : Nat} {l : List Int} (h : RdY w (.slice (some ⟨g, o, none⟩) n c) l) {k m : Nat} (hk : k + m ≤ n) (c' : Nat) (hc : m ≤ c' ∧ c' ≤ maxLen) : RdY w (.slice (some ⟨g, o + k, none⟩) m c') ((l.drop k).take m) := by
  obtain ⟨a, cap, e, h1, h2, h3, h4⟩ := h
  simp only [Value.slice.injEq] at e
  obtain ⟨rfl, rfl, rfl⟩ := e
  rw [yv_len] at hk h1
  have hl : ((l.drop k).take m).length = m := by rw [List.length_take, List.length_drop]; omega
  refine ⟨some ⟨g, o + k, none⟩, c', by rw [yv_len, hl], by rw [yv_len, hl]; exact hc.1, hc.2, by simp, fun x hx i hi => ?_⟩
  rw [yv_len, hl] at hi
  cases hx
  have := h4 _ rfl (k + i) (by rw [yv_len]; omega)
  rw [add_add] at this
  rw [add_add, Nat.add_assoc, this]
  simp only [yv, List.getElem?_map, List.getElem?_take, List.getElem?_drop, if_pos hi]
theorem set3 {w : World} {q : Nat} {x0 x1 x2 : Value} (h : w.heap[q]? = some (.cells #[x0, x1, x2] 38 (0, 0))) (a b c : Value) :
    (((w.setCell ⟨q, 0, none⟩ a).setCell ⟨q, 1, none⟩ b).setCell ⟨q, 2, none⟩ c).heap[q]? = some (.cells #[a, b, c] 38 (0, 0)) ∧ Chg [q] w (((w.setCell ⟨q, 0, none⟩ a).setCell ⟨q, 1, none⟩ b).setCell ⟨q, 2, none⟩ c) := by
  have h1 := heap_setCell_same w q 0 _ 38 a h
  have h2 := heap_setCell_same _ q 1 _ 38 b h1
  have h3 := heap_setCell_same _ q 2 _ 38 c h2
  exact ⟨h3, (((Chg.refl [q] w).setCell (a := ⟨q, 0, none⟩) (.inl (by simp)) a).setCell (a := ⟨q, 1, none⟩) (.inl (by simp)) b).setCell (a := ⟨q, 2, none⟩) (.inl (by simp)) c⟩
section
variable {w : World}
/-- What takePiece answers. -/
def TpV (w' : World) (v : Value) (b : List Int) (at' : Nat) (e : Ending) : Prop := ∃ (pa : Option Addr) (pn pc : Nat), e = .returned (.tuple #[pcv pa pn pc (tkP b at').1.far (tkP b at').1.n, .int .i64 (tkP b at').2.1, .int .i64 (tkP b at').2.2]) ∧ RdY w' (.slice pa pn pc) (tkP b at').1.pl ∧ ∀ k ∈ ob (.slice pa pn pc), k ∈ ob v
set_option maxHeartbeats 4000000 in
set_option maxRecDepth 100000 in
theorem tp29 (v : Value) (b : List Int) (at' : Nat) (hv : RdY w v b) (hb : By b) (ha : at' < b.length) : Calls Try.prog 29 #[v, .int .i64 at'] w fun e w' => TpV w' v b at' e ∧ Below w.heap.size w w' := by
  obtain ⟨g, off, cap, rfl, hcap, hat⟩ := hv.at ha
  have hlen : b.length ≤ maxLen := by obtain ⟨_, _, _, h1, h2, _⟩ := hv.shape; omega
  have c0 := hat at' ha
  have hg := hb.get at'
  obtain ⟨w1, Hw1⟩ : ∃ x, Hid (w.alloc (.cells #[.slice none 0 0, .int .i64 0, .int .i64 0] 38) = x) := ⟨_, ⟨rfl⟩⟩
  have HB1 : Hid (Below w.heap.size w w1) := ⟨by rw [← Hw1.out]; exact (Below.refl _ w).alloc (Nat.le_refl _) _⟩
  have HX1 : Hid (w1.heap[w.heap.size]? = some (.cells #[.slice none 0 0, .int .i64 0, .int .i64 0] 38 (0, 0))) := ⟨by rw [← Hw1.out]; exact heap_alloc_new w _⟩
  obtain ⟨q, Hq⟩ : ∃ q, Hid (w.heap.size = q) := ⟨_, ⟨rfl⟩⟩
  rw [Hq.out] at HX1
  have HV := Hid.mk hv
  have HV1 : Hid (RdY w1 (.slice (some ⟨g, off, none⟩) b.length cap) b) := ⟨HV.out.far (Chg.ofBelow (X := []) HB1.out) (by simp)⟩
  have c1 : w1.cell? ⟨g, off + at', none⟩ = some (.int .u8 (b.getD at' 0)) := (HB1.out.cell (p := ⟨g, off + at', none⟩) (World.block_lt_of_cell? _ _ c0)).trans c0
  have t1 := takeNum_any (.slice (some ⟨g, off, none⟩) b.length cap) b ((at' : Int) + 1) w1 (rdy_bs HV1.out) hb
  obtain ⟨T, HT⟩ : ∃ T, Hid (tkP b at' = T) := ⟨_, ⟨rfl⟩⟩
  have HP : Hid (∀ e w', (∃ (pa : Option Addr) (pn pc : Nat), e = .returned (.tuple #[pcv pa pn pc T.1.far T.1.n, .int .i64 T.2.1, .int .i64 T.2.2]) ∧ RdY w' (.slice pa pn pc) T.1.pl ∧ ∀ k ∈ ob (.slice pa pn pc), k ∈ ob (.slice (some ⟨g, off, none⟩) b.length cap)) → TpV w' (.slice (some ⟨g, off, none⟩) b.length cap) b at' e) := ⟨fun e w' h => by unfold TpV; rw [HT.out]; exact h⟩
  have HTd : Hid (T = tkP b at') := ⟨HT.out.symm⟩
  obtain ⟨c, Hc⟩ : ∃ c : Nat, Hid ((b.getD at' 0) = (c : Int)) := ⟨(b.getD at' 0).toNat, ⟨by omega⟩⟩
  have HcN : Hid ((b.getD at' 0).toNat = c) := ⟨by rw [Hc.out]; simp⟩
  rw [Hc.out] at c0 c1 hg
  have hc256 : c < 256 := by omega
  obtain ⟨n, Hn⟩ : ∃ n, Hid (b.length = n) := ⟨_, ⟨rfl⟩⟩
  rw [Hn.out] at ha hcap hlen t1 HV HV1 HP ⊢
  have hhz : (at' : Int) < (n : Int) := by omega
  have ha1 : IntKind.i64.wrap ((at' : Int) + 1) = (at' : Int) + 1 := IntWalk.i64_in _ ⟨by omega, by unfold maxLen at hlen; omega⟩
  have c2 : (w.alloc (.cells #[.slice none 0 0, .int .i64 0, .int .i64 0] 38)).cell? ⟨g, off + at', none⟩ = some (.int .u8 (c : Int)) := by rw [Hw1.out]; exact c1
  clear hv hat hg
  by_cases hc : 128 ≤ c
  · have hcz : (128 : Int) ≤ (c : Int) := by omega
    by_cases he : (tkNum b ((at' : Int) + 1)).2.2 = 0
    · have hok := tkNum_ok b _ hb he
      obtain ⟨far, Hf⟩ : ∃ f : Nat, Hid ((tkNum b ((at' : Int) + 1)).1 = (f : Int)) := ⟨(tkNum b ((at' : Int) + 1)).1.toNat, ⟨by omega⟩⟩
      obtain ⟨nx, Hx⟩ : ∃ f : Nat, Hid ((tkNum b ((at' : Int) + 1)).2.1 = (f : Int)) := ⟨(tkNum b ((at' : Int) + 1)).2.1.toNat, ⟨by omega⟩⟩
      have HTT : Hid (T = (⟨[], far, c - 124⟩, nx, 0)) := ⟨by
        rw [HTd.out, tkP, HcN.out, if_pos hc, if_neg (by simpa using he), Hf.out, Hx.out]
        simp⟩
      rw [he, Hf.out, Hx.out] at t1
      clear hok he
      have hc4 : IntKind.i64.wrap ((c : Int) - 128) = (c : Int) - 128 := IntWalk.i64_in _ ⟨by omega, by omega⟩
      have hc5 : IntKind.i64.wrap ((c : Int) - 128 + 4) = (c : Int) - 128 + 4 := IntWalk.i64_in _ ⟨by omega, by omega⟩
      have e0 : w1.cell? ⟨q, 0, none⟩ = some (.slice none 0 0) := by rw [cell_of_row _ _ _ _ _ _ HX1.out]; rfl
      have e1 : w1.cell? ⟨q, 1, none⟩ = some (.int .i64 0) := by rw [cell_of_row _ _ _ _ _ _ HX1.out]; rfl
      have e2 : w1.cell? ⟨q, 2, none⟩ = some (.int .i64 0) := by rw [cell_of_row _ _ _ _ _ _ HX1.out]; rfl
      have f0 : w1.frozen? ⟨q, 0, none⟩ = false := frozen_of_row w1 q 0 _ 38 HX1.out
      have f1 : w1.frozen? ⟨q, 1, none⟩ = false := frozen_of_row w1 q 1 _ 38 HX1.out
      have f2 : w1.frozen? ⟨q, 2, none⟩ = false := frozen_of_row w1 q 2 _ 38 HX1.out
      go_enter Try.func29, Try.ntmps29
      go_wp2_with fail
      rw [Hw1.out, Hq.out]
      refine t1.mono ?_
      rintro e wx ⟨rfl, rfl⟩
      clear t1
      go_wp2_with fail
      have hs := set3 HX1.out (.slice none 0 0) (.int .i64 (far : Int)) (.int .i64 ((c : Int) - 128 + 4))
      (try simp only [Exit.inBlock, Exit.then]); refine bodyPost_ret (results_rtt rfl _ _ q 38 _ _ _ rfl hs.1 Try.underlying38 rfl rfl) rfl ?_
      refine ⟨HP.out _ _ ⟨none, 0, 0, by rw [HTT.out]; simp only [pcv]; rw [show (c : Int) - 128 + 4 = ((c - 124 : Nat) : Int) by omega]; rfl, ?_, ?_⟩, HB1.out.trans (hs.2.below HB1.out.size (by simp; have := Hq.out; omega))⟩
      · rw [HTT.out]; exact (owny_nil _ 0).rd
      · intro k hk; simp [ob, Value.ownBlock] at hk
    · obtain ⟨er, Her⟩ : ∃ er, Hid ((tkNum b ((at' : Int) + 1)).2.2 = er) := ⟨_, ⟨rfl⟩⟩
      have HTT : Hid (T = (⟨[], 0, 0⟩, 0, er)) := ⟨by
        rw [HTd.out, tkP, HcN.out, if_pos hc, if_pos he, Her.out]⟩
      rw [Her.out] at t1 he
      have hne : (er != 0) = true := by simpa using he
      clear he
      have e0 : w1.cell? ⟨q, 0, none⟩ = some (.slice none 0 0) := by rw [cell_of_row _ _ _ _ _ _ HX1.out]; rfl
      have e1 : w1.cell? ⟨q, 1, none⟩ = some (.int .i64 0) := by rw [cell_of_row _ _ _ _ _ _ HX1.out]; rfl
      have e2 : w1.cell? ⟨q, 2, none⟩ = some (.int .i64 0) := by rw [cell_of_row _ _ _ _ _ _ HX1.out]; rfl
      have f0 : w1.frozen? ⟨q, 0, none⟩ = false := frozen_of_row w1 q 0 _ 38 HX1.out
      have f1 : w1.frozen? ⟨q, 1, none⟩ = false := frozen_of_row w1 q 1 _ 38 HX1.out
      have f2 : w1.frozen? ⟨q, 2, none⟩ = false := frozen_of_row w1 q 2 _ 38 HX1.out
      go_enter Try.func29, Try.ntmps29
      go_wp2_with fail
      rw [Hw1.out, Hq.out]
      refine t1.mono ?_
      rintro e wx ⟨rfl, rfl⟩
      clear t1
      go_wp2_with fail
      have hs := set3 HX1.out (.slice none 0 0) (.int .i64 0) (.int .i64 0)
      (try simp only [Exit.inBlock, Exit.then]); refine bodyPost_ret (results_rtt rfl _ _ q 38 _ _ _ rfl hs.1 Try.underlying38 rfl rfl) rfl ?_
      refine ⟨HP.out _ _ ⟨none, 0, 0, by rw [HTT.out]; rfl, ?_, ?_⟩, HB1.out.trans (hs.2.below HB1.out.size (by simp; have := Hq.out; omega))⟩
      · rw [HTT.out]; exact (owny_nil _ 0).rd
      · intro k hk; simp [ob, Value.ownBlock] at hk
  · have hcz : ¬ (128 : Int) ≤ (c : Int) := by omega
    clear t1
    have hs1 : IntKind.i64.wrap ((c : Int) + 1) = (c : Int) + 1 := IntWalk.i64_in _ ⟨by omega, by omega⟩
    have hs2 : IntKind.i64.wrap ((n : Int) - ((at' : Int) + 1)) = (n : Int) - ((at' : Int) + 1) := IntWalk.i64_in _ ⟨by omega, by unfold maxLen at hlen; omega⟩
    by_cases hl : n < at' + 1 + (c + 1)
    · have HTT : Hid (T = (⟨[], 0, 0⟩, 0, 3)) := ⟨by rw [HTd.out, tkP, HcN.out, Hn.out, if_neg hc, if_pos hl]⟩
      have hlz : (n : Int) - ((at' : Int) + 1) < (c : Int) + 1 := by omega
      clear hl
      have e0 : w1.cell? ⟨q, 0, none⟩ = some (.slice none 0 0) := by rw [cell_of_row _ _ _ _ _ _ HX1.out]; rfl
      have e1 : w1.cell? ⟨q, 1, none⟩ = some (.int .i64 0) := by rw [cell_of_row _ _ _ _ _ _ HX1.out]; rfl
      have e2 : w1.cell? ⟨q, 2, none⟩ = some (.int .i64 0) := by rw [cell_of_row _ _ _ _ _ _ HX1.out]; rfl
      have f0 : w1.frozen? ⟨q, 0, none⟩ = false := frozen_of_row w1 q 0 _ 38 HX1.out
      have f1 : w1.frozen? ⟨q, 1, none⟩ = false := frozen_of_row w1 q 1 _ 38 HX1.out
      have f2 : w1.frozen? ⟨q, 2, none⟩ = false := frozen_of_row w1 q 2 _ 38 HX1.out
      go_enter Try.func29, Try.ntmps29
      go_wp2_with fail
      (try simp only [Exit.inBlock, Exit.then]); refine bodyPost_ret (results_rtt rfl _ _ w.heap.size 38 _ _ _ rfl (heap_alloc_new w _) Try.underlying38 rfl rfl) rfl ?_
      refine ⟨HP.out _ _ ⟨none, 0, 0, by rw [HTT.out]; rfl, by rw [HTT.out]; exact (owny_nil _ 0).rd, fun k hk => by simp [ob, Value.ownBlock] at hk⟩, (Below.refl _ w).alloc (Nat.le_refl _) _⟩
    · have HTT : Hid (T = (⟨(b.drop (at' + 1)).take (c + 1), 0, 0⟩, at' + 1 + (c + 1), 0)) := ⟨by rw [HTd.out, tkP, HcN.out, Hn.out, if_neg hc, if_neg hl]⟩
      have hlz : ¬ (n : Int) - ((at' : Int) + 1) < (c : Int) + 1 := by omega
      have hs3 : IntKind.i64.wrap ((at' : Int) + 1 + ((c : Int) + 1)) = (at' : Int) + 1 + ((c : Int) + 1) := IntWalk.i64_in _ ⟨by omega, by unfold maxLen at hlen; omega⟩
      have hle : at' + 1 + (c + 1) ≤ n := by omega
      have hlc : (at' : Int) + 1 + ((c : Int) + 1) ≤ (cap : Int) := by omega
      clear hl
      have e0 : w1.cell? ⟨q, 0, none⟩ = some (.slice none 0 0) := by rw [cell_of_row _ _ _ _ _ _ HX1.out]; rfl
      have e1 : w1.cell? ⟨q, 1, none⟩ = some (.int .i64 0) := by rw [cell_of_row _ _ _ _ _ _ HX1.out]; rfl
      have e2 : w1.cell? ⟨q, 2, none⟩ = some (.int .i64 0) := by rw [cell_of_row _ _ _ _ _ _ HX1.out]; rfl
      have f0 : w1.frozen? ⟨q, 0, none⟩ = false := frozen_of_row w1 q 0 _ 38 HX1.out
      have f1 : w1.frozen? ⟨q, 1, none⟩ = false := frozen_of_row w1 q 1 _ 38 HX1.out
      have f2 : w1.frozen? ⟨q, 2, none⟩ = false := frozen_of_row w1 q 2 _ 38 HX1.out
      go_enter Try.func29, Try.ntmps29
      go_wp2_with fail
      (try simp only [Exit.inBlock, Exit.then]); refine bodyPost_ret (results_rtt rfl _ _ w.heap.size 38 _ _ _ rfl (heap_alloc_new w _) Try.underlying38 rfl rfl) rfl ?_
      refine ⟨HP.out _ _ ⟨some ⟨g, off + (at' + 1), none⟩, c + 1, c + 1, by rw [HTT.out]; simp only [pcv]; rw [show ((at' + 1 + (c + 1) : Nat) : Int) = (at' : Int) + 1 + ((c : Int) + 1) by omega]; rfl, ?_, fun k hk => by simp [ob, Value.ownBlock] at hk ⊢; exact hk⟩, (Below.refl _ w).alloc (Nat.le_refl _) _⟩
      rw [HTT.out]
      have := rdY_sub HV.out (k := at' + 1) (m := c + 1) hle (c + 1) ⟨Nat.le_refl _, by omega⟩
      exact this.far (Chg.ofBelow (X := []) ((Below.refl _ w).alloc (Nat.le_refl _) _)) (by simp)
end
end Go.Proofs.Ytoneepoaodoijaa
