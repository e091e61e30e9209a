/- The document's Split. -/
import Derived.Test.YtngeefipeghjiaaR2
namespace Go.Proofs.Ytngeefipeghjiaa
open Go.RowKit

theorem Bo.take {w : World} {S : Nat → Prop} {a : Option Addr} {n cap k : Nat} {ps : List Int} (h : Bo w S (.slice a n cap) ps) (hk : k ≤ n) : Bo w S (.slice a k cap) (ps.take k) :=
  ⟨h.bs.take hk, fun hp j hj => h.ty (by have := List.length_take_le' k ps; omega) j (by cases a with | none => simp [Value.ownBlock] at hj | some x => exact hj)⟩
theorem Bo.drop {w : World} {S : Nat → Prop} {b off n cap k : Nat} {ps : List Int} (h : Bo w S (.slice (some ⟨b, off, none⟩) n cap) ps) (hk : k ≤ n) (_hc : n ≤ cap) : Bo w S (.slice (some ⟨b, off + k, none⟩) (n - k) (cap - k)) (ps.drop k) := by
  have hty := h.ty
  obtain ⟨a', cap', e, hl, hm, hn, hcell, hy⟩ := h.bs
  simp at e
  obtain ⟨rfl, rfl, rfl⟩ := e
  have hlen : (ps.drop k).length = ps.length - k := List.length_drop
  refine ⟨⟨_, _, by rw [hlen], by omega, by omega, by simp, fun x hx i hi => ?_, fun y hy' => hy y (List.mem_of_mem_drop hy')⟩, fun hp j hj => hty (by omega) j (by simpa [Value.ownBlock] using hj)⟩
  cases hx
  have := hcell _ rfl (k + i) (by omega)
  rw [add_plain] at this ⊢
  rw [show off + k + i = off + (k + i) by omega, this]
  simp only [List.getD, List.getElem?_drop]
theorem Bo.drop_all {w : World} {S : Nat → Prop} {a : Option Addr} {n cap : Nat} {ps : List Int} (h : Bo w S (.slice a n cap) ps) {k : Nat} (hk : k = n) : Bo w S (.slice a 0 0) (ps.drop k) := by
  obtain ⟨a', cap', e, hl, hm, hn, hcell, hy⟩ := h.bs
  simp at e
  obtain ⟨rfl, rfl, rfl⟩ := e
  have e0 : ps.drop k = [] := List.drop_eq_nil_of_le (by omega)
  rw [e0]
  exact ⟨⟨a, 0, rfl, by simp, by omega, fun _ => rfl, fun x _ i hi => by simp at hi, fun y hy => by cases hy⟩, fun hp => by simp at hp⟩
theorem ownr_none (w : World) (S : Nat → Prop) : OwnR (w.alloc (.cells #[] 32)) S 0 (.slice (some ⟨w.heap.size, 0, none⟩) 0 0) [] :=
  ⟨[], ⟨rfl, .inr ⟨w.heap.size, 0, #[], rfl, Nat.zero_le _, heap_alloc_new w _, Nat.le_refl _, by decide, rfl, rfl⟩⟩, Each.nil _ _⟩
section
variable {w : World} {mn av mx : Int}
set_option maxHeartbeats 4000000 in
set_option maxRecDepth 100000 in
theorem split_any (h : okC mn av mx) (ta : Array Value) (T : Nat → Int) (hT : Tab ta T) (pv : Value) (ps : List Int) (hp : Bs w pv ps) (hps : ps.length ≤ 1000000000000) : Calls Try.prog 20 #[.agg #[.int .i64 mn, .int .i64 av, .int .i64 mx], .agg ta, pv] w fun e w' => ∃ ov rv, e = .returned (.tuple #[ov, rv]) ∧ OwnR w' (fun k => w.heap.size ≤ k) 0 ov (feed (endB mn av mx T) [] ps).1 ∧ (∀ k ∈ ob ov, w.heap.size ≤ k) ∧ Bo w' (fun k => w.heap.size ≤ k) rv (feed (endB mn av mx T) [] ps).2 ∧ Below w.heap.size w w' := by
  obtain ⟨w1, HW1⟩ : ∃ w1, Hid ((w.alloc (.cells #[.int .i64 mn, .int .i64 av, .int .i64 mx] 24)).alloc (.cells ta 27) = w1) := ⟨_, ⟨rfl⟩⟩
  have Hb : Hid (Below w.heap.size w w1) := ⟨by rw [← HW1.out]; exact ((Below.refl _ w).alloc (Nat.le_refl _) _).alloc (by simp) _⟩
  have hx : w1.heap[w.heap.size]? = some (.cells #[.int .i64 mn, .int .i64 av, .int .i64 mx] 24 (0, 0)) := by
    rw [← HW1.out, Below.heap_alloc _ _ _ (by simp)]; exact heap_alloc_new w _
  have hx1 : w1.heap[w.heap.size + 1]? = some (.cells ta 27 (0, 0)) := by
    rw [← HW1.out]
    have := heap_alloc_new (w.alloc (.cells #[.int .i64 mn, .int .i64 av, .int .i64 mx] 24)) (.cells ta 27)
    rw [show (w.alloc (.cells #[.int .i64 mn, .int .i64 av, .int .i64 mx] 24)).heap.size = w.heap.size + 1 by simp] at this
    exact this
  have HX : Hid (w1.heap[w.heap.size]? = some (.cells #[.int .i64 mn, .int .i64 av, .int .i64 mx] 24 (0, 0)) ∧ w1.heap[w.heap.size + 1]? = some (.cells ta 27 (0, 0)) ∧ w1.heap.size = w.heap.size + 2) := ⟨hx, hx1, by rw [← HW1.out]; simp⟩
  have HT : Hid (Tab ta T) := ⟨hT⟩
  have Hok : Hid (okC mn av mx) := ⟨h⟩
  obtain ⟨E, HE⟩ : ∃ E, Hid (endB mn av mx T = E) := ⟨_, ⟨rfl⟩⟩
  have hpl : (Try.prog.info? 27).map (·.size) = some ta.size := by rw [hT.1]; exact info27
  obtain ⟨B, HBB⟩ : ∃ B, Hid (w.heap.size = B) := ⟨_, ⟨rfl⟩⟩
  have hsz2 : (w1.alloc (.cells #[] 32)).heap.size = B + 3 := by simp; rw [HX.out.2.2, HBB.out]
  have hsz3 : ((w1.alloc (.cells #[] 32)).alloc (.cells #[] 5)).heap.size = B + 4 := by simp; rw [HX.out.2.2, HBB.out]
  have HP : Hid (Bs ((w1.alloc (.cells #[] 32)).alloc (.cells #[] 5)) pv ps) := ⟨hp.below ((Hb.out.alloc Hb.out.size _).alloc (by rw [hsz2]; have := HBB.out; omega) _)⟩
  have HO0 : Hid (OwnR ((w1.alloc (.cells #[] 32)).alloc (.cells #[] 5)) (fun k => w.heap.size ≤ k) 0 (.slice (some ⟨w1.heap.size, 0, none⟩) 0 0) []) := ⟨(ownr_none w1 _).far (Chg.ofBelow (X := []) ((Below.refl _ _).alloc (Nat.le_refl _) _)) (by simp) (by simp)⟩
  have HN0 : Hid (OwnB ((w1.alloc (.cells #[] 32)).alloc (.cells #[] 5)) (B + 3) (.slice (some ⟨(w1.alloc (.cells #[] 32)).heap.size, 0, none⟩) 0 0) []) := ⟨by have := ownb_none (w1.alloc (.cells #[] 32)); rwa [hsz2] at this ⊢⟩
  have HY : Hid (Byt ps) := ⟨by obtain ⟨_, _, _, _, _, _, _, hy⟩ := hp; exact hy⟩
  rw [HE.out]
  clear hT h hx hx1 hp
  go_enter Try.func20, Try.ntmps20
  go_upto_region 1 with (refine wpl_box27 rfl (.tmp 1) ta rfl rfl ?_)
  rw [HW1.out]
  rw [hsz2] at HN0
  have hsz1 : w1.heap.size = B + 2 := by rw [HX.out.2.2, HBB.out]
  rw [hsz1] at HO0
  go_wp2_with (at_builtin; refine wp_appSat (base := B + 3) rfl (.tmp 12) (.tmp 13) rfl rfl HN0.out rfl HP.out (by simp; omega) (by rw [hsz3]; omega) ?_; intro v' w2 hO2 hG2 hV2; replace hG2 : Chg (ob (.slice (some ⟨B + 3, 0, none⟩) 0 0)) ((w1.alloc (.cells #[] 32)).alloc (.cells #[] 5)) w2 := hG2)
  rw [HBB.out] at HX Hb HO0 ⊢
  have HB2 : Hid (Below (B + 2) w1 w2) := ⟨(((Below.refl _ w1).alloc (by rw [hsz1]; exact Nat.le_refl _) _).alloc (by rw [hsz2]; omega) _).trans (hG2.below (by rw [hsz3]; omega) (fun x hx => by simp [ob, Value.ownBlock] at hx; omega))⟩
  have HO2 : Hid (OwnR w2 (fun k => B ≤ k) 0 (.slice (some ⟨B + 2, 0, none⟩) 0 0) []) := ⟨by
    obtain ⟨vs, h1, h2⟩ := HO0.out
    have hv0 : vs = [] := List.length_eq_zero_iff.1 h2.1
    subst hv0
    exact ⟨[], own_far h1 hG2 (fun g hg hm => by simp [ob, Value.ownBlock] at hg hm; omega), Each.nil _ _⟩⟩
  have HR2 : Hid (Bo w2 (fun k => B ≤ k) v' ps) := ⟨OwnB.bo (by simpa using hO2) HY.out (fun k hk => by have := (hO2.lt k hk).1; omega)⟩
  clear HO0 HN0 hO2 hG2 hV2 hsz2 hsz3 HP hsz1
  obtain ⟨N, HN⟩ : ∃ N, Hid (ps.length = N) := ⟨_, ⟨rfl⟩⟩
  rw [HN.out] at hps
  go_loopg [8, 9, 10] (N + 1) (fun gg s8 s9 _ wr => ∃ L rl, Hid (OwnR wr (fun k => B ≤ k) 0 s8 L) ∧ Hid (∀ k ∈ ob s8, B + 2 ≤ k) ∧ Hid (Bo wr (fun k => B ≤ k) s9 rl) ∧ Hid (feed E [] ps = (L ++ (feed E [] rl).1, (feed E [] rl).2)) ∧ Hid (Below (B + 2) w1 wr) ∧ rl.length + 1 ≤ gg ∧ L.length + rl.length ≤ N)
  case atStart => exact ⟨[], ps, HO2, ⟨by simp [ob, Value.ownBlock]⟩, HR2, ⟨by simp⟩, HB2, by have := HN.out; omega, by have := HN.out; simp; omega⟩
  case round =>
    obtain ⟨L, rl, HO, HOB, HR, HF, HB, hgg, hLr⟩ := hrel
    have hx := (HB.out.block B (by omega)).trans HX.out.1
    have hx1 := (HB.out.block (B + 1) (by omega)).trans HX.out.2.1
    have t := first_any Hok.out ta T HT.out u9 rl HR.out.bs (by omega)
    rw [HE.out] at t
    obtain ⟨a9, c9, rfl, h91, h92, h93, _⟩ := HR.out.bs
    obtain ⟨a8, c8, n8, rfl⟩ : ∃ a c n, u8 = .slice a n c := by
      obtain ⟨vs, h1, h2⟩ := HO.out
      obtain ⟨a, c, e, _⟩ := own_rd h1
      exact ⟨a, c, _, e⟩
    go_upto_region 4 with (first | (refine wpList_load_row rfl 24 (.tmp 3) rfl B rfl 24 #[.int .i64 mn, .int .i64 av, .int .i64 mx] (0, 0) _ hx Try.underlying24 rfl info24 ?_) | (refine wpList_load_row rfl 27 (.tmp 4) rfl (B + 1) rfl 27 ta (0, 0) _ hx1 Try.underlying27 rfl hpl ?_) | (go_at_call 30; refine t.mono ?_; rintro e w3 ⟨k, rfl, hK, hb3⟩))
    have HB3 : Hid (Below (B + 2) w1 w3 ∧ Below wr.heap.size wr w3) := ⟨HB.out.trans (hb3.mono (by have := HB.out.size; rw [HX.out.2.2] at this; exact this)), hb3⟩
    have HOx : Hid (OwnR w3 (fun k => B ≤ k) 0 (.slice a8 n8 c8) L) := ⟨HO.out.far (Chg.ofBelow (X := []) hb3) (by simp) (by simp)⟩
    have HRx : Hid (Bo w3 (fun k => B ≤ k) (.slice a9 rl.length c9) rl) := ⟨HR.out.far (Chg.ofBelow (X := []) hb3) (by simp)⟩
    clear HO HR hx hx1 hb3 t
    by_cases hk0 : k = 0
    · subst hk0
      have hfin := hK.none
      have HFF : Hid (feed E [] ps = (L, rl)) := ⟨by rw [HF.out, hfin]; simp⟩
      clear hK
      go_wp2
      go_ret2
      refine ⟨.slice a8 n8 c8, .slice a9 rl.length c9, rfl, ?_⟩
      rw [HFF.out, HBB.out]
      exact ⟨HOx.out, fun k hk => by have := HOB.out k hk; omega, HRx.out, Hb.out.trans (HB3.out.1.mono (by omega))⟩
    · obtain ⟨hkl, hfd⟩ := hK.some hk0
      have HFF : Hid (feed E [] ps = ((L ++ [rl.take k]) ++ (feed E [] (rl.drop k)).1, (feed E [] (rl.drop k)).2)) := ⟨by rw [HF.out, hfd]; simp⟩
      have hkz : ¬ (k : Int) = 0 := by omega
      have hklz : (k : Int) ≤ (rl.length : Int) := by omega
      have hbc : Bo w3 (fun k => B ≤ k) (.slice a9 k c9) (rl.take k) := HRx.out.take hkl
      have hLl : L.length ≤ 1000000000000 := by omega
      have HKL : Hid (L.length + 1 + (rl.length - k) ≤ N ∧ rl.length - k + 1 ≤ gk) := ⟨by omega⟩
      obtain ⟨a, rfl⟩ : ∃ a, a9 = some a := by
        cases a9 with
        | none => have := h93 rfl; omega
        | some a => exact ⟨a, rfl⟩
      clear hfd hK
      by_cases hck : c9 = k
      · subst hck
        have HD : Hid (Bo w3 (fun k => B ≤ k) (.slice (some a) 0 0) (rl.drop c9)) := ⟨HRx.out.drop_all (by omega)⟩
        have hrl : rl.length - c9 = 0 := by omega
        go_wp2_with (at_builtin; refine wp_appR1 rfl (.tmp 23) (.tmp 27) rfl rfl HOx.out hbc rfl hLl (Nat.zero_le _) ?_; intro o4 w4 hO4 hG4 hV4; replace hG4 : Chg (ob (.slice a8 n8 c8)) w3 w4 := hG4; replace hV4 : o4.ownBlock = Value.ownBlock (.slice a8 n8 c8) ∨ o4.ownBlock = some (w3.heap.size + 1) := hV4)
        go_roundg (gk - 1)
        case measure => have := HKL.out; omega
        case rel =>
          have hfar : ∀ j, Ty w3 5 j → B ≤ j → j ∉ ob (.slice a8 n8 c8) := fun j hj _ hm => by
            obtain ⟨vs, h1, _⟩ := HOx.out
            exact (Ty.ne hj (own_ty h1 (mem_ob.1 hm)) (by decide)) rfl
          have hs3 : B + 2 ≤ w3.heap.size := by have := HB3.out.1.size; rw [HX.out.2.2] at this; exact this
          refine ⟨L ++ [rl.take c9], rl.drop c9, ⟨hO4⟩, ⟨fun j hj => ?_⟩, ⟨HD.out.far hG4 hfar⟩, HFF, ⟨HB3.out.1.trans (hG4.below hs3 (fun x hx => HOB.out x hx))⟩, by rw [List.length_drop]; have := HKL.out; omega, by rw [List.length_append, List.length_drop]; have := HKL.out; simp; omega⟩
          rcases hV4 with q | q
          · exact HOB.out j (mem_ob.2 (by rw [← q]; exact mem_ob.1 hj))
          · have := mem_ob.1 hj
            rw [q] at this
            cases this
            omega
      · obtain ⟨b, off, rfl⟩ : ∃ b off, a = ⟨b, off, none⟩ := by
          rcases HRx.out.bs.cases with ⟨e0, _⟩ | ⟨_, b, off, cap2, e1, _⟩
          · rw [e0] at hkl; simp at hkl; omega
          · simp at e1
            exact ⟨b, off, e1.1⟩
        have HD : Hid (Bo w3 (fun k => B ≤ k) (.slice (some ⟨b, off + k, none⟩) (rl.length - k) (c9 - k)) (rl.drop k)) := ⟨HRx.out.drop hkl h91⟩
        go_wp2_with (at_builtin; refine wp_appR1 rfl (.tmp 23) (.tmp 27) rfl rfl HOx.out hbc rfl hLl (Nat.zero_le _) ?_; intro o4 w4 hO4 hG4 hV4; replace hG4 : Chg (ob (.slice a8 n8 c8)) w3 w4 := hG4; replace hV4 : o4.ownBlock = Value.ownBlock (.slice a8 n8 c8) ∨ o4.ownBlock = some (w3.heap.size + 1) := hV4)
        go_roundg (gk - 1)
        case measure => have := HKL.out; omega
        case rel =>
          have hfar : ∀ j, Ty w3 5 j → B ≤ j → j ∉ ob (.slice a8 n8 c8) := fun j hj _ hm => by
            obtain ⟨vs, h1, _⟩ := HOx.out
            exact (Ty.ne hj (own_ty h1 (mem_ob.1 hm)) (by decide)) rfl
          have hs3 : B + 2 ≤ w3.heap.size := by have := HB3.out.1.size; rw [HX.out.2.2] at this; exact this
          refine ⟨L ++ [rl.take k], rl.drop k, ⟨hO4⟩, ⟨fun j hj => ?_⟩, ⟨HD.out.far hG4 hfar⟩, HFF, ⟨HB3.out.1.trans (hG4.below hs3 (fun x hx => HOB.out x hx))⟩, by rw [List.length_drop]; have := HKL.out; omega, by rw [List.length_append, List.length_drop]; have := HKL.out; simp; omega⟩
          rcases hV4 with q | q
          · exact HOB.out j (mem_ob.2 (by rw [← q]; exact mem_ob.1 hj))
          · have := mem_ob.1 hj
            rw [q] at this
            cases this
            omega
end
end Go.Proofs.Ytngeefipeghjiaa
