/- The document's Put. -/
import Derived.Test.YtoneepoaodoijaaT1
import Derived.Test.YtoneepoaodoijaaT2
import Derived.Test.YtoneepoaodoijaaG7
namespace Go.Proofs.Ytoneepoaodoijaa
open Go.RowKit Go.Lib Go.Shelf Oct

theorem pcs_none {p : List Int} {d i : Nat} (h : (mt p i).1 = 0) : pcs p d (mtl p i) = pcs p d (mtl p (i + 1)) := by rw [mtl_none h]
section
variable {w : World}
set_option maxHeartbeats 8000000 in
set_option maxRecDepth 100000 in
theorem rput10 (v : Value) (p : List Int) (hv : RdY w v p) (_hby : By p) :
    Calls Try.prog 10 #[v] w fun e w' => PutV w' w.heap.size p e ∧ Below w.heap.size w w' := by
  obtain ⟨va, vc, rfl, hvc, hvm, _⟩ := hv.shape
  have HV := Hid.mk hv
  obtain ⟨n, Hn⟩ : ∃ n, Hid (p.length = n) := ⟨_, ⟨rfl⟩⟩
  rw [Hn.out] at HV hvc ⊢
  clear hv
  by_cases h8 : 8192 < n
  · have hz : (8192 : Int) < (n : Int) := by omega
    go_enter Try.func10, Try.ntmps10
    go_wp2_with fail
    go_ret2
    exact ⟨⟨none, 0, 0, 6, [], rfl, owny_nil _ _, .inl ⟨by rw [Hn.out]; exact h8, rfl, rfl⟩⟩, Below.refl _ _⟩
  · have hz : ¬ (8192 : Int) < (n : Int) := by omega
    have h8n : n ≤ 8192 := by omega
    clear h8
    obtain ⟨b0, Hb⟩ : ∃ b, Hid (w.heap.size = b) := ⟨_, ⟨rfl⟩⟩
    obtain ⟨w2, Hw2⟩ : ∃ x, Hid ((w.alloc (.cells #[] 5)).alloc (.cells #[] 5) = x) := ⟨_, ⟨rfl⟩⟩
    have HM := Hid.mk (mem2 Hw2.out)
    rw [Hb.out] at HM
    have HSq : Hid (∀ k, (lays ((pl0 p).take k)).length ≤ n + n / 128 + 1) := ⟨fun k => by have := lays_take_len p k; rw [Hn.out] at this; exact this⟩
    have HSl : Hid ((sqz p).length ≤ 8257) := ⟨by have := sqz_len p; rw [Hn.out] at this; omega⟩
    have HRow : Hid (∀ W, Below b0 w W → RdY W (.slice va n vc) p) := ⟨fun W hW => HV.out.stay (fun _ k _ o ho => (hW.block k (by rw [← Hb.out]; exact (Array.getElem?_eq_some_iff.1 ho).1)).trans ho)⟩
    go_enter Try.func10, Try.ntmps10
    go_upto_region 6 with fail
    rw [Hw2.out, Hb.out]
    go_loopg [4, 5, 6] (n + 1) (fun gg s4 s5 s6 wr => ∃ (i d : Nat) (OL : List Int) (oa : Option Addr) (on oc : Nat) (pa : Option Addr) (pc : Nat), i ≤ n ∧ d ≤ i ∧ n + 1 - i ≤ gg ∧ s6 = .int .i64 (i : Int) ∧ s4 = .slice oa on oc ∧ s5 = .slice pa (i - d) pc ∧ Hid (OL ++ lays (pcs p d (mtl p i)) = sqz p) ∧ Hid (OwnY wr b0 (.slice oa on oc) OL) ∧ Hid (OwnY wr b0 (.slice pa (i - d) pc) ((p.drop d).take (i - d))) ∧ Hid (∀ g ∈ ob (.slice pa (i - d) pc), g ∉ ob (.slice oa on oc)) ∧ Hid (Below b0 w wr))
    case atStart =>
      have hn1 : owny_none w = owny_none w := rfl
      refine ⟨0, 0, [], _, _, _, _, _, Nat.zero_le _, Nat.le_refl _, by omega, rfl, rfl, rfl, ⟨rfl⟩, ⟨?_⟩, ⟨?_⟩, ⟨?_⟩, ⟨HM.out.2.2.2⟩⟩
      · exact ⟨rfl, .inr ⟨b0, 0, #[], rfl, Nat.le_refl _, HM.out.1, Nat.le_refl _, by decide, rfl, rfl⟩⟩
      · exact ⟨rfl, .inr ⟨b0 + 1, 0, #[], rfl, by omega, HM.out.2.1, Nat.le_refl _, by decide, rfl, rfl⟩⟩
      · intro g hg
        simp [ob, Value.ownBlock] at hg ⊢
        omega
    case round =>
      obtain ⟨i, d, OL, oa, on, oc, pa, pc, hin, hdi, hgg, rfl, rfl, rfl, HE, HO, HP, HAp, HB⟩ := hrel
      rename World => wo
      have HOl : Hid (OL.length ≤ 8257) := ⟨by have := HSl.out; rw [← HE.out, List.length_append] at this; omega⟩
      have hon : on = OL.length := by obtain ⟨_, _, e, _⟩ := HO.out.shape; simp only [Value.slice.injEq] at e; exact e.2.1
      have Hon := Hid.mk hon
      have hbo : b0 ≤ wo.heap.size := by rw [← Hb.out]; exact (by have := HB.out.size; omega)
      obtain ⟨k, Hk⟩ : ∃ k, Hid (i - d = k) := ⟨_, ⟨rfl⟩⟩
      have hkn : k ≤ n := by rw [← Hk.out]; omega
      obtain ⟨PL, HPL⟩ : ∃ k, Hid ((p.drop d).take (i - d) = k) := ⟨_, ⟨rfl⟩⟩
      have HPk : Hid (PL.length = k) := ⟨by rw [← HPL.out, List.length_take, List.length_drop, Hn.out, ← Hk.out]; omega⟩
      rw [HPL.out, Hk.out] at HP
      rw [Hk.out] at HAp
      rw [Hk.out]
      clear hon
      by_cases hlt : i < n
      · have hltz : (i : Int) < (n : Int) := by omega
        have t16 := match16 (w := wo) (.slice va n vc) p i (HRow.out wo HB.out) (by rw [Hn.out]; exact hlt) (by rw [Hn.out]; exact h8n)
        obtain ⟨mn, mf, Hmt⟩ : ∃ mn mf, Hid (mt p i = (mn, mf)) := ⟨_, _, ⟨rfl⟩⟩
        rw [Hmt.out] at t16
        go_wp2_with fail
        refine t16.mono ?_
        rintro e w3 ⟨rfl, hb3⟩
        simp only
        have HB3 := Hid.mk hb3
        have HBw : Hid (Below b0 w w3) := ⟨HB.out.trans (hb3.mono hbo)⟩
        have HO3 : Hid (OwnY w3 b0 (.slice oa on oc) OL) := ⟨HO.out.kc (n := 0) (Kg.below hb3)⟩
        have HP3 : Hid (OwnY w3 b0 (.slice pa k pc) PL) := ⟨HP.out.kc (n := 0) (Kg.below hb3)⟩
        have hb3s : b0 ≤ w3.heap.size := Nat.le_trans hbo hb3.size
        clear t16 hb3 HO HP
        obtain ⟨g, off, cap, ev, hcap, hat⟩ := (HRow.out w3 HBw.out).at (i := i) (by rw [Hn.out]; exact hlt)
        simp only [Value.slice.injEq] at ev
        obtain ⟨rfl, -, rfl⟩ := ev
        have c0 := hat i (by rw [Hn.out]; exact hlt)
        clear hat
        by_cases hm0 : mn = 0
        · subst hm0
          obtain ⟨y, Hy⟩ : ∃ y, Hid (p.getD i 0 = y) := ⟨_, ⟨rfl⟩⟩
          rw [Hy.out] at c0
          have hpl : PL.length ≤ 1000000000000 := by rw [HPk.out]; omega
          have HNx : Hid (PL ++ [y] = (p.drop d).take (i + 1 - d)) := ⟨by
            rw [← HPL.out, show i + 1 - d = (i - d) + 1 by omega, List.take_add_one, List.getElem?_drop, show d + (i - d) = i by omega, ← Hy.out]
            congr 1
            simp [List.getD, List.getElem?_eq_getElem (show i < p.length by rw [Hn.out]; exact hlt)]⟩
          have HEn : Hid (OL ++ lays (pcs p d (mtl p (i + 1))) = sqz p) := ⟨by rw [← HE.out, pcs_none (i := i) (by rw [Hmt.out])]⟩
          have hw : IntKind.i64.wrap ((i : Int) + 1) = (i : Int) + 1 := IntWalk.i64_in _ ⟨by omega, by omega⟩
          go_wp2_with (refine wp_appY1 (y := y) rfl (.tmp 28) (.tmp 33) rfl rfl HP3.out rfl hpl hb3s ?_; intro v6 w6 hO6 hG6 hV6; rw [HNx.out] at hO6; have HO6 := Hid.mk hO6; have HG6 : Hid (Chg (ob (.slice pa k pc)) w3 w6) := ⟨hG6⟩; have HV6 := Hid.mk hV6; clear hO6 hG6 hV6; obtain ⟨pa6, pc6, e6, _⟩ := HO6.out.shape; have hl6 : ((p.drop d).take (i + 1 - d)).length = i + 1 - d := (by rw [List.length_take, List.length_drop, Hn.out]; omega); rw [hl6] at e6; clear hl6; subst e6)
          go_roundg (n + 1 - (i + 1))
          case measure => omega
          case rel =>
            have hpo : ∀ x ∈ ob (.slice oa on oc), x ∉ ob (.slice pa k pc) := fun x hx hm => HAp.out x hm hx
            refine ⟨i + 1, d, OL, oa, on, oc, pa6, pc6, by omega, by omega, by omega, by go_num, rfl, rfl, HEn, ⟨own_far HO3.out HG6.out (fun x hx => hpo x (mem_ob.2 hx))⟩, HO6, ⟨fun x hx hm => ?_⟩, ⟨HBw.out.trans (HG6.out.below hb3s (fun x hx => (World.ownsRow.lt HP3.out x (mem_ob.1 hx)).1))⟩⟩
            have hxo := (World.ownsRow.lt HO3.out x (mem_ob.1 hm)).2
            rcases HV6.out with h | h
            · exact HAp.out x (mem_ob.2 (h.symm.trans (mem_ob.1 hx))) hm
            · have h2 := mem_ob.1 hx
              rw [h] at h2
              simp at h2
              omega
        · have his : IsM p i mf mn := by have := mt_is (p := p) (i := i) (by rw [Hmt.out]; exact hm0); rw [Hmt.out] at this; exact this
          have hn4 := his.n4
          have hn1 := his.n131
          have hfit := his.fit
          rw [Hn.out] at hfit
          have hf4 := his.f4
          have HMl : Hid (mtl p i = (i, mf, mn) :: mtl p (i + mn)) := ⟨by have := mtl_some (p := p) (i := i) (by rw [Hmt.out]; exact hm0); rw [Hmt.out] at this; exact this⟩
          have HEn : Hid (((OL ++ rws PL (cnk k)) ++ [((124 + mn : Nat) : Int)]) ++ numB mf ++ lays (pcs p (i + mn) (mtl p (i + mn))) = sqz p) := ⟨by
            rw [← HE.out, HMl.out]
            simp only [pcs]
            rw [HPL.out, lays_app, lays_app, lays_chs, HPk.out]
            simp [lays, lay_cp]⟩
          have hmz : ((mn : Int) == 0) = false := by simpa using hm0
          have t17 := row17 (w := w3) (.slice oa on oc) (.slice pa k pc) OL PL HO3.out hb3s HP3.out.rd (fun x hx => ⟨HAp.out x hx, (World.ownsRow.lt HP3.out x (mem_ob.1 hx)).2⟩) (by rw [HPk.out]; omega) (by have := HOl.out; omega)
          rw [HPk.out] at t17
          clear his hm0
          go_wp2_with fail
          refine t17.mono ?_
          rintro e w4 ⟨a4, n4, c4, rfl, hO4, hC4, hN4⟩
          have HO4 := Hid.mk hO4
          have HC4 := Hid.mk hC4
          have HN4 := Hid.mk hN4
          have hb4s : b0 ≤ w4.heap.size := Nat.le_trans hb3s hC4.size
          have HB4 : Hid (Below b0 w w4) := ⟨HBw.out.trans (hC4.below hb3s (fun x hx => (World.ownsRow.lt HO3.out x (mem_ob.1 hx)).1))⟩
          clear t17 hO4 hC4 hN4
          obtain ⟨w5, Hw5⟩ : ∃ x, Hid (w4.alloc (.cells #[] 5) = x) := ⟨_, ⟨rfl⟩⟩
          have HB5 : Hid (Below w4.heap.size w4 w5) := ⟨by rw [← Hw5.out]; exact (Below.refl _ _).alloc (Nat.le_refl _) _⟩
          have HX5 : Hid (w5.heap[w4.heap.size]? = some (.cells #[] 5 (0, 0))) := ⟨by rw [← Hw5.out]; exact heap_alloc_new w4 _⟩
          have t18 := rnum_good mf w5 (by omega)
          go_wp2_with fail
          rw [Hw5.out]
          refine t18.mono ?_
          rintro e w6 ⟨v6, rfl, hO6, hb6⟩
          have HB6 : Hid (Below w4.heap.size w4 w6) := ⟨HB5.out.trans (hb6.mono HB5.out.size)⟩
          have HX6 : Hid (w6.heap[w4.heap.size]? = some (.cells #[] 5 (0, 0))) := ⟨(hb6.block _ (Array.getElem?_eq_some_iff.1 HX5.out).1).trans HX5.out⟩
          have HR6 : Hid (RdY w6 v6 (numB mf)) := ⟨own_rd hO6⟩
          have HNl : Hid ((numB mf).length ≤ 8) := ⟨numB_len8 mf (by omega)⟩
          have HO6 : Hid (OwnY w6 b0 (.slice a4 n4 c4) (OL ++ rws PL (cnk k))) := ⟨HO4.out.kc (n := 0) (Kg.below HB6.out)⟩
          have hb6s : b0 ≤ w6.heap.size := Nat.le_trans hb4s HB6.out.size
          have H6lt : Hid (∀ x ∈ ob v6, w5.heap.size ≤ x) := ⟨fun x hx => (World.ownsRow.lt hO6 x (mem_ob.1 hx)).1⟩
          clear t18 hO6 hb6
          have hs1 : IntKind.i64.wrap (124 + (mn : Int)) = ((124 + mn : Nat) : Int) := by rw [show 124 + (mn : Int) = ((124 + mn : Nat) : Int) by omega]; exact IntWalk.i64_in _ ⟨by omega, by omega⟩
          have hs2 : IntKind.u8.wrap ((124 + mn : Nat) : Int) = ((124 + mn : Nat) : Int) := IntWalk.u8_in _ ⟨by omega, by omega⟩
          obtain ⟨y, Hy⟩ : ∃ y, Hid (((124 + mn : Nat) : Int) = y) := ⟨_, ⟨rfl⟩⟩
          rw [Hy.out] at hs1 hs2 HEn
          have hlo : (OL ++ rws PL (cnk k)).length ≤ 8257 := by have := HSl.out; rw [← HEn.out] at this; simp only [List.length_append] at this ⊢; omega
          have hl7 : (OL ++ rws PL (cnk k)).length ≤ 1000000000000 := by omega
          have hl8 : (OL ++ rws PL (cnk k) ++ [y]).length + (numB mf).length ≤ 1000000000000 := by have := HNl.out; simp only [List.length_append, List.length_cons, List.length_nil] at hlo ⊢; omega
          have Hlo := Hid.mk hlo
          clear hlo
          obtain ⟨va6, vc6, ev6, _⟩ := HR6.out.shape
          obtain ⟨vn6, Hvn6⟩ : ∃ k, Hid ((numB mf).length = k) := ⟨_, ⟨rfl⟩⟩
          rw [Hvn6.out] at ev6
          subst ev6
          have hwi : IntKind.i64.wrap ((i : Int) + (mn : Int)) = (i : Int) + mn := IntWalk.i64_in _ ⟨by omega, by omega⟩
          have H4lt : Hid (∀ x ∈ ob (.slice a4 n4 c4), b0 ≤ x ∧ x < w4.heap.size) := ⟨fun x hx => World.ownsRow.lt HO4.out x (mem_ob.1 hx)⟩
          go_upto_region 15 with (refine wp_appY1 (y := y) rfl (.tmp 46) (.tmp 50) rfl rfl HO6.out rfl hl7 hb6s ?_; intro v7 w7 hO7 hG7 hV7; have HO7 := Hid.mk hO7; have HG7 : Hid (Chg (ob (.slice a4 n4 c4)) w6 w7) := ⟨hG7⟩; have HV7 : Hid (v7.ownBlock = (Value.slice a4 n4 c4).ownBlock ∨ v7.ownBlock = some (w6.heap.size + 1)) := ⟨hV7⟩; clear hO7 hG7 hV7)
          have HR7 : Hid (RdY w7 (.slice va6 vn6 vc6) (numB mf)) := ⟨HR6.out.far HG7.out (fun _ x hx hm => by have h1 := H6lt.out x (mem_ob.2 hx); have h2 := (H4lt.out x hm).2; have h3 := HB5.out.size; omega)⟩
          have hb7s : b0 ≤ w7.heap.size := Nat.le_trans hb6s HG7.out.size
          obtain ⟨a7, c7, e7, _⟩ := HO7.out.shape
          obtain ⟨n7, Hn7⟩ : ∃ ll, Hid ((OL ++ rws PL (cnk k) ++ [y]).length = ll) := ⟨_, ⟨rfl⟩⟩
          rw [Hn7.out] at e7
          subst e7
          go_upto_region 16 with (refine wp_appY rfl (.tmp 52) (.tmp 53) rfl rfl HO7.out rfl HR7.out hl8 hb7s ?_; intro v8 w8 hO8 hG8 hV8; have HO8 := Hid.mk hO8; have HG8 : Hid (Chg (ob (.slice a7 n7 c7)) w7 w8) := ⟨hG8⟩; have HV8 : Hid (v8.ownBlock = (Value.slice a7 n7 c7).ownBlock ∨ v8.ownBlock = some w7.heap.size) := ⟨hV8⟩; clear hO8 hG8 hV8)
          obtain ⟨a8, c8, e8, _⟩ := HO8.out.shape
          obtain ⟨n8, Hn8⟩ : ∃ ll, Hid ((OL ++ rws PL (cnk k) ++ [y] ++ numB mf).length = ll) := ⟨_, ⟨rfl⟩⟩
          rw [Hn8.out] at e8
          subst e8
          have H48 : Hid (w4.heap.size < w6.heap.size ∧ w6.heap.size ≤ w7.heap.size) := ⟨(Array.getElem?_eq_some_iff.1 HX6.out).1, HG7.out.size⟩
          have HX7 : Hid (w7.heap[w4.heap.size]? = some (.cells #[] 5 (0, 0))) := ⟨(HG7.out.block _ H48.out.1 (fun hm => by have := (H4lt.out _ hm).2; omega)).trans HX6.out⟩
          have H7ob : Hid (∀ x ∈ ob (.slice a7 n7 c7), x ≠ w4.heap.size) := ⟨fun x hx e => by
            have h1 := H48.out
            rcases HV7.out with h | h
            · have := (H4lt.out x (mem_ob.2 (h.symm.trans (mem_ob.1 hx)))).2
              omega
            · have h2 := mem_ob.1 hx
              rw [h] at h2
              simp at h2
              omega⟩
          have HX8 : Hid (w8.heap[w4.heap.size]? = some (.cells #[] 5 (0, 0))) := ⟨(HG8.out.block _ (Array.getElem?_eq_some_iff.1 HX7.out).1 (fun hm => H7ob.out _ hm rfl)).trans HX7.out⟩
          have HB8 : Hid (Below b0 w w8) := ⟨((HB4.out.trans (HB6.out.mono hb4s)).trans (HG7.out.below hb6s (fun x hx => (H4lt.out x hx).1))).trans (HG8.out.below hb7s (fun x hx => (World.ownsRow.lt HO7.out x (mem_ob.1 hx)).1))⟩
          have HD8 : Hid (∀ x ∈ ob (.slice (some ⟨w4.heap.size, 0, none⟩) 0 0), x ∉ ob (.slice a8 n8 c8)) := ⟨fun x hx hm => by
            have h0 := mem_ob.1 hx
            simp [Value.ownBlock] at h0
            have h1 := H48.out
            rcases HV8.out with h | h
            · exact H7ob.out x (mem_ob.2 (h.symm.trans (mem_ob.1 hm))) h0.symm
            · have h2 := mem_ob.1 hm
              rw [h] at h2
              simp at h2
              omega⟩
          clear hlt
          go_wp2_with fail
          go_roundg (n + 1 - (i + mn))
          case measure => omega
          case rel =>
            refine ⟨i + mn, i + mn, OL ++ rws PL (cnk k) ++ [y] ++ numB mf, a8, n8, c8, some ⟨w4.heap.size, 0, none⟩, 0, by omega, Nat.le_refl _, by omega, by go_num, rfl, by rw [Nat.sub_self], HEn, HO8, ⟨?_⟩, ⟨by rw [Nat.sub_self]; exact HD8.out⟩, HB8⟩
            rw [Nat.sub_self, List.take_zero]
            exact ⟨rfl, .inr ⟨w4.heap.size, 0, #[], rfl, hb4s, HX8.out, Nat.le_refl _, by decide, rfl, rfl⟩⟩
      · obtain rfl : i = n := by omega
        have HPd : Hid (PL = p.drop d) := ⟨by rw [← HPL.out]; exact List.take_of_length_le (by rw [List.length_drop, Hn.out]; exact Nat.le_refl _)⟩
        have HEn : Hid (OL ++ rws PL (cnk k) = sqz p) := ⟨by
          rw [← HE.out, mtl_end (by rw [Hn.out]; omega)]
          simp only [pcs]
          rw [lays_chs, ← HPd.out, HPk.out]⟩
        have t17 := row17 (w := wo) (.slice oa on oc) (.slice pa k pc) OL PL HO.out hbo HP.out.rd (fun x hx => ⟨HAp.out x hx, (World.ownsRow.lt HP.out x (mem_ob.1 hx)).2⟩) (by rw [HPk.out]; omega) (by have := HOl.out; omega)
        rw [HPk.out, HEn.out] at t17
        have HLo : Hid (∀ x ∈ ob (.slice oa on oc), b0 ≤ x) := ⟨fun x hx => (World.ownsRow.lt HO.out x (mem_ob.1 hx)).1⟩
        clear hlt
        go_wp2_with fail
        refine t17.mono ?_
        rintro e w4 ⟨a4, n4, c4, rfl, hO4, hC4, hN4⟩
        have HO4 := Hid.mk hO4
        have HC4 := Hid.mk hC4
        clear t17 hO4 hC4 hN4
        go_wp2_with fail
        go_ret2
        exact ⟨⟨a4, n4, c4, 0, _, rfl, by rw [Hb.out]; exact HO4.out, .inr ⟨by rw [Hn.out]; omega, rfl, rfl⟩⟩, by rw [Hb.out]; exact HB.out.trans (HC4.out.below hbo HLo.out)⟩
end
end Go.Proofs.Ytoneepoaodoijaa
