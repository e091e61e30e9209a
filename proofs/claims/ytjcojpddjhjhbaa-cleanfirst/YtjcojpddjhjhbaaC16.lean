/- The program's Shares. -/
import Derived.Test.YtjcojpddjhjhbaaC15
import Derived.Laws.MakeOwn
namespace Go.Proofs.Ytjcojpddjhjhbaa
open Go.RowKit Go.Lib Go.Shelf

abbrev Fl := Int × List Int
def f0 : Fl := (0, [])
/-- A row of containers, read. -/
structure RdF (w : World) (v : Value) (F : List Fl) : Prop where
  shape : ∃ a cap, v = .slice a F.length cap ∧ F.length ≤ cap ∧ cap ≤ maxLen ∧ (a = none → cap = 0)
  at' : ∀ i, i < F.length → ∃ b off cap sl, v = .slice (some ⟨b, off, none⟩) F.length cap ∧ w.cell? ⟨b, off + i * 2, none⟩ = some (.int .i64 (F.getD i f0).1) ∧ w.cell? ⟨b, off + i * 2 + 1, none⟩ = some sl ∧ RdI w sl (F.getD i f0).2
theorem RdF.below {w w' : World} {v : Value} {F : List Fl} (h : RdF w v F) (hb : Below w.heap.size w w') : RdF w' v F :=
  ⟨h.shape, fun i hi => by
    obtain ⟨b, off, cap, sl, e, h1, h2, h3⟩ := h.at' i hi
    exact ⟨b, off, cap, sl, e, (hb.cell (p := ⟨b, off + i * 2, none⟩) (World.block_lt_of_cell? _ _ h1)).trans h1, (hb.cell (p := ⟨b, off + i * 2 + 1, none⟩) (World.block_lt_of_cell? _ _ h2)).trans h2, h3.far (Chg.ofBelow (X := []) hb) (by simp)⟩⟩
theorem sumL_congr {S T : List Sp} (h : ∀ y, y ∈ S ↔ y ∈ T) (b : Int) (l : List Int) : ∀ j, sumL S b l j = sumL T b l j
  | 0 => rfl
  | j + 1 => by
    unfold sumL
    rw [sumL_congr h b l j]
    by_cases hs : (b, (j : Int)) ∈ S
    · rw [if_pos hs, if_pos ((h _).1 hs)]
    · rw [if_neg hs, if_neg (fun ht => hs ((h _).2 ht))]
theorem shr_congr {S T : List Sp} (h : ∀ y, y ∈ S ↔ y ∈ T) (f : Fl) : shr S f = shr T f := by unfold shr; rw [sumL_congr h]
theorem map_snoc {α : Type} (g : Fl → α) (F : List Fl) {i : Nat} (h : i < F.length) : (F.take (i + 1)).map g = (F.take i).map g ++ [g (F.getD i f0)] := by
  rw [List.take_add_one, List.getElem?_eq_getElem h, List.map_append]
  simp [List.getD, List.getElem?_eq_getElem h]
theorem mem_snoc {L : List Sp} {i : Nat} (h : i < L.length) (y : Sp) : y ∈ L.take (i + 1) ↔ y ∈ L.take i ∨ y = L.getD i q0 := by
  rw [List.take_add_one, List.getElem?_eq_getElem h, List.mem_append]
  simp [List.getD, List.getElem?_eq_getElem h]
theorem wp_makeS {w : World} {ops : Array Oper} {rest : List Oper} {o : Oper} {ac : Act} {Q : Exit → Act → World → Prop} (hgd : o.guard = none) (x y : Operand) (ho : o.op = .makeSlice 24 x y) (c : Nat) (hx : ac.eval x = .int .i64 0) (hy : ac.eval y = .int .i64 (c : Int)) (hc : c ≤ 5000000000000)
    (h : ∀ w', OwnE sh3 3 27 w' w.heap.size (.slice (some ⟨w.heap.size, 0, none⟩) 0 c) [] → Below w.heap.size w w' → wpList Try.prog ops Q rest (ac.put o.dst (.slice (some ⟨w.heap.size, 0, none⟩) 0 c)) w') : wpList Try.prog ops Q (o :: rest) ac w :=
  wpList_plain hgd fun _ hK => by
    obtain ⟨_, ⟨i, z, hi, hz, hs, hb, hzc⟩, _⟩ := eltS
    have h63' : (c : Int) ≤ 9223372036854775807 := by omega
    have hb' : (i.bytes : Int) * (c : Int) ≤ 281474976710656 := by rw [hb]; omega
    have hr := run_make (P := Try.prog) w 24 27 i _ Try.underlying24 hi hz .i64 .i64 0 c (Int.le_refl _) (by omega) hb' h63'
    simp only [Int.toNat_zero, Int.toNat_natCast] at hr
    unfold Oper.wp execOp
    simp only [ho, hx, hy, Sem.run_bind, hr, Result.andThen_ok]
    refine hK _ _ (h _ ?_ ((Below.refl _ w).alloc (Nat.le_refl _) _))
    have := World.ownsRow_made (e := 27) (size := i.size) w (madeCells (Value.cells z) (c * i.size)) c (Nat.le_refl _) (by unfold maxLen; omega) (size_madeCells _ _)
    rw [hs] at this
    refine ⟨?_, by simp⟩
    simpa [fl, hs] using this
section
variable {w : World}
set_option maxHeartbeats 8000000 in
set_option maxRecDepth 100000 in
theorem shares8 (v u : Value) (F : List Fl) (L : List Sp) (h : RdF w v F) (hF : F.length ≤ 5000000000000) (hu : RdE sp2 2 q0 w u L) (hL : L.length ≤ 9000000000000) :
    Calls Try.prog 8 #[v, u] w fun e w' => ∃ x, e = .returned x ∧ OwnE sh3 3 27 w' w.heap.size x (F.map (shr L)) ∧ Below w.heap.size w w' := by
  have H := Hid.mk h
  have HU := Hid.mk hu
  obtain ⟨a, c, rfl, hlc, hcm, _⟩ := h.shape
  obtain ⟨au, cu, rfl, hlu, hcu, _⟩ := hu.shape
  obtain ⟨n, Hn⟩ : ∃ n, Hid (F.length = n) := ⟨_, ⟨rfl⟩⟩
  obtain ⟨k, Hk⟩ : ∃ n, Hid (L.length = n) := ⟨_, ⟨rfl⟩⟩
  rw [Hn.out] at H hF hlc ⊢
  rw [Hk.out] at HU hL hlu ⊢
  have hcx : c ≤ 9223372036854775807 := hcm
  have hcux : cu ≤ 9223372036854775807 := hcu
  have HTe : Hid (F.take n = F) := ⟨List.take_of_length_le (by rw [Hn.out]; exact Nat.le_refl _)⟩
  have HTl : Hid (L.take k = L) := ⟨List.take_of_length_le (by rw [Hk.out]; exact Nat.le_refl _)⟩
  have hmk : ∀ (W : World) (z : Int), (Instr.makeMap 48 (some (.int .i64 z))).run Try.prog W = .ok (.map (some W.heap.size)) (W.alloc (.map #[] 0)) := fun W z => by simp [Instr.makeMap, run_underlying Try.underlying48, asInt, asIntOf]
  clear h hu
  go_enter Try.func8, Try.ntmps8
  go_upto_region 3 with fail
  obtain ⟨w2, Hw2⟩ : ∃ x, Hid ((w.alloc (.map #[] 0)).alloc (.cells #[.map (some w.heap.size)] 48) = x) := ⟨_, ⟨rfl⟩⟩
  have HB2 : Hid (Below w.heap.size w w2) := ⟨by rw [← Hw2.out]; exact ((Below.refl _ w).alloc (Nat.le_refl _) _).alloc (by simp) _⟩
  have HM2 : Hid (MsAt w2 w.heap.size []) := ⟨⟨#[], 0, by
    rw [← Hw2.out]
    have h1 := heap_alloc_new w (.map #[] 0)
    exact (((Below.refl _ (w.alloc (.map #[] 0))).alloc (Nat.le_refl _) (.cells #[.map (some w.heap.size)] 48)).block w.heap.size (by simp)).trans h1, rfl⟩⟩
  have HX2 : Hid (w2.heap[w.heap.size + 1]? = some (.cells #[.map (some w.heap.size)] 48 (0, 0))) := ⟨by
    rw [← Hw2.out]
    have := heap_alloc_new (w.alloc (.map #[] 0)) (.cells #[.map (some w.heap.size)] 48)
    simpa using this⟩
  obtain ⟨mb, Hmb⟩ : ∃ x, Hid (w.heap.size = x) := ⟨_, ⟨rfl⟩⟩
  obtain ⟨B, HBb⟩ : ∃ x, Hid (w.heap.size + 1 = x) := ⟨_, ⟨rfl⟩⟩
  have HmB : Hid (mb ≠ B ∧ w.heap.size ≤ mb ∧ w.heap.size ≤ B) := ⟨by have := Hmb.out; have := HBb.out; omega⟩
  rw [Hw2.out, HBb.out]
  rw [HBb.out] at HX2
  rw [Hmb.out] at HX2 HM2
  rw [Hmb.out]
  go_loopg [7, 17] k (fun gg _ s17 wr => ∃ i : Nat, ∃ M : List Sp, i ≤ k ∧ k - i ≤ gg ∧ s17 = .int .i64 (i : Int) ∧ Hid (MsAt wr mb M) ∧ Hid (∀ y, y ∈ M ↔ y ∈ L.take i) ∧ Hid (wr.heap[B]? = some (.cells #[.map (some mb)] 48 (0, 0))) ∧ Hid (Below w.heap.size w wr))
  case atStart => exact ⟨0, [], Nat.zero_le _, by omega, rfl, HM2, ⟨by simp⟩, HX2, HB2⟩
  case round =>
    clear HM2 HX2 HB2
    obtain ⟨i, M, hi, hgg, rfl, HM, HMm, HX, HB⟩ := hrel
    rename World => wo
    by_cases hlt : i < k
    · have hltz : (i : Int) < (k : Int) := by omega
      have hiL : i < L.length := by rw [Hk.out]; exact hlt
      obtain ⟨g, off, cap, e, hc⟩ := (HU.out.far (Chg.ofBelow (X := []) HB.out) (by simp)).at' i hiL
      rw [Hk.out] at e
      simp at e
      obtain ⟨rfl, rfl⟩ := e
      have HSn := Hid.mk (mem_snoc hiL)
      generalize L.getD i q0 = x at hc HSn
      obtain ⟨x1, x2⟩ := x
      have c0 := hc 0 (by decide)
      have c1 := hc 1 (by decide)
      clear hc
      simp [sp2] at c0 c1
      obtain ⟨w3, Hw3⟩ : ∃ x, Hid (wo.alloc (.cells #[.int .i64 x1, .int .i64 x2] 46) = x) := ⟨_, ⟨rfl⟩⟩
      have HB3 : Hid (Below wo.heap.size wo w3) := ⟨by rw [← Hw3.out]; exact (Below.refl _ wo).alloc (Nat.le_refl _) _⟩
      have HS3 : Hid (w3.heap[wo.heap.size]? = some (.cells #[.int .i64 x1, .int .i64 x2] 46 (0, 0))) := ⟨by rw [← Hw3.out]; exact heap_alloc_new wo _⟩
      obtain ⟨q, Hq⟩ : ∃ x, Hid (wo.heap.size = x) := ⟨_, ⟨rfl⟩⟩
      rw [Hq.out] at HS3
      have HX3 : Hid (w3.heap[B]? = some (.cells #[.map (some mb)] 48 (0, 0))) := ⟨(HB3.out.block B (Array.getElem?_eq_some_iff.1 HX.out).1).trans HX.out⟩
      have HB03 : Hid (Below w.heap.size w w3) := ⟨HB.out.trans (HB3.out.mono HB.out.size)⟩
      obtain ⟨w4, hup, ⟨M4, hM4, hm4⟩, hC4⟩ := update_run (HM.out.far (Chg.ofBelow (X := []) HB3.out) (by simp)) (x1, x2)
      simp only [spv] at hup
      have HM4 := Hid.mk hM4
      have HMm4 : Hid (∀ y, y ∈ M4 ↔ y ∈ L.take (i + 1)) := ⟨fun y => by rw [hm4, HSn.out, HMm.out]⟩
      have HX4 : Hid (w4.heap[B]? = some (.cells #[.map (some mb)] 48 (0, 0))) := ⟨(hC4.block B (Array.getElem?_eq_some_iff.1 HX3.out).1 (by have := HmB.out.1; simp; omega)).trans HX3.out⟩
      have HB4 : Hid (Below w.heap.size w w4) := ⟨HB03.out.trans (hC4.below HB03.out.size (by simpa using HmB.out.2.1))⟩
      go_upto_region 5 with fail
      rw [Hw3.out, Hq.out]
      have d0 : w3.cell? ⟨q, 0, none⟩ = some (.int .i64 x1) := by rw [cell_of_row _ _ _ _ _ _ HS3.out]; rfl
      have d1 : w3.cell? ⟨q, 1, none⟩ = some (.int .i64 x2) := by rw [cell_of_row _ _ _ _ _ _ HS3.out]; rfl
      have dB : w3.cell? ⟨B, 0, none⟩ = some (.map (some mb)) := by rw [cell_of_row _ _ _ _ _ _ HX3.out]; rfl
      clear c0 c1 hM4 hm4 hC4
      go_wp2_with fail
      go_roundg (k - (i + 1))
      case measure => omega
      case rel => exact ⟨i + 1, M4, by omega, by omega, by go_num, HM4, HMm4, HX4, HB4⟩
    · obtain rfl : k = i := by omega
      rw [HTl.out] at HMm
      obtain ⟨ww, Hww⟩ : ∃ x, Hid (wo = x) := ⟨_, ⟨rfl⟩⟩
      rw [Hww.out] at HM HX HB ⊢
      clear Hww
      have HSh : Hid (∀ f, shr M f = shr L f) := ⟨fun f => shr_congr HMm.out f⟩
      go_upto_region 9 with (refine wp_makeS rfl (.const (.int .i64 0)) (.tmp 27) rfl n rfl rfl (by omega) ?_; intro w5 hO5 hB5; have HO5 : Hid (OwnE sh3 3 27 w5 w.heap.size (.slice (some ⟨ww.heap.size, 0, none⟩) 0 n) []) := ⟨hO5.base HB.out.size⟩; have HB5 := Hid.mk hB5; clear hO5 hB5)
      have HM5 : Hid (MsAt w5 mb M) := ⟨HM.out.far (Chg.ofBelow (X := []) HB5.out) (by simp)⟩
      have HX5 : Hid (w5.heap[B]? = some (.cells #[.map (some mb)] 48 (0, 0))) := ⟨(HB5.out.block B (Array.getElem?_eq_some_iff.1 HX.out).1).trans HX.out⟩
      have HB05 : Hid (Below w.heap.size w w5) := ⟨HB.out.trans (HB5.out.mono HB.out.size)⟩
      clear HM HX HB HB5
      obtain ⟨z, Hz⟩ : ∃ x, Hid (ww.heap.size = x) := ⟨_, ⟨rfl⟩⟩
      rw [Hz.out] at HO5 ⊢
      go_upto_region 10 with fail
      go_loopg [9, 11, 31] n (fun gg s9 _ s31 wr => ∃ i : Nat, i ≤ n ∧ n - i ≤ gg ∧ s31 = .int .i64 (i : Int) ∧ Hid (OwnE sh3 3 27 wr w.heap.size s9 ((F.take i).map (shr L))) ∧ Hid (MsAt wr mb M) ∧ Hid (wr.heap[B]? = some (.cells #[.map (some mb)] 48 (0, 0))) ∧ Hid (Below w.heap.size w wr))
      case atStart => exact ⟨0, Nat.zero_le _, by omega, rfl, HO5, HM5, HX5, HB05⟩
      case round =>
        clear HO5 HM5 HX5 HB05
        obtain ⟨i, hi, hgg, rfl, HO, HM, HX, HB⟩ := hrel
        rename World => wo
        obtain ⟨a9, c9, e9, _⟩ := (HO.out.rd s0).shape
        subst e9
        obtain ⟨PR, HPR⟩ : ∃ x, Hid ((F.take i).map (shr L) = x) := ⟨_, ⟨rfl⟩⟩
        have HPl : Hid (PR.length = i) := ⟨by rw [← HPR.out, List.length_map, List.length_take]; have := Hn.out; omega⟩
        rw [HPR.out, HPl.out] at HO
        rw [HPR.out, HPl.out]
        by_cases hlt : i < n
        · have hltz : (i : Int) < (n : Int) := by omega
          have hiF : i < F.length := by rw [Hn.out]; exact hlt
          obtain ⟨g, off, cap, sl, e, h1, h2, h3⟩ := (H.out.below HB.out).at' i hiF
          rw [Hn.out] at e
          simp at e
          obtain ⟨rfl, rfl⟩ := e
          have HSn := Hid.mk (map_snoc (shr L) F hiF)
          rw [HPR.out] at HSn
          generalize F.getD i f0 = f at h1 h3 HSn
          obtain ⟨bn, ls⟩ := f
          simp only at h1 h3
          obtain ⟨al, cl, el, _⟩ := h3.shape
          subst el
          obtain ⟨ln, Hln⟩ : ∃ x, Hid (ls.length = x) := ⟨_, ⟨rfl⟩⟩
          rw [Hln.out] at h2 h3
          obtain ⟨w3, Hw3⟩ : ∃ x, Hid (wo.alloc (.cells #[.int .i64 bn, .slice al ln cl] 39) = x) := ⟨_, ⟨rfl⟩⟩
          have HB3 : Hid (Below wo.heap.size wo w3) := ⟨by rw [← Hw3.out]; exact (Below.refl _ wo).alloc (Nat.le_refl _) _⟩
          have HS3 : Hid (w3.heap[wo.heap.size]? = some (.cells #[.int .i64 bn, .slice al ln cl] 39 (0, 0))) := ⟨by rw [← Hw3.out]; exact heap_alloc_new wo _⟩
          obtain ⟨q, Hq⟩ : ∃ x, Hid (wo.heap.size = x) := ⟨_, ⟨rfl⟩⟩
          rw [Hq.out] at HS3
          have HX3 : Hid (w3.heap[B]? = some (.cells #[.map (some mb)] 48 (0, 0))) := ⟨(HB3.out.block B (Array.getElem?_eq_some_iff.1 HX.out).1).trans HX.out⟩
          have HM3 : Hid (MsAt w3 mb M) := ⟨HM.out.far (Chg.ofBelow (X := []) HB3.out) (by simp)⟩
          have t3 := share19 HX3.out HM3.out bn (.slice al ln cl) ls (h3.far (Chg.ofBelow (X := []) HB3.out) (by simp))
          rw [HSh.out] at t3
          obtain ⟨⟨y1, y2, y3⟩, Hy⟩ : ∃ x, Hid (shr L (bn, ls) = x) := ⟨_, ⟨rfl⟩⟩
          rw [Hy.out] at t3 HSn
          simp only [sh3, List.toArray] at t3
          go_upto_region 12 with fail
          rw [Hw3.out, Hq.out]
          have d0 : w3.cell? ⟨q, 0, none⟩ = some (.int .i64 bn) := by rw [cell_of_row _ _ _ _ _ _ HS3.out]; rfl
          have d1 : w3.cell? ⟨q, 1, none⟩ = some (.slice al ln cl) := by rw [cell_of_row _ _ _ _ _ _ HS3.out]; rfl
          clear h1 h2 h3
          go_wp2_with fail
          refine t3.mono ?_
          rintro e w4 ⟨rfl, hB4⟩
          have HB4 : Hid (Below wo.heap.size wo w4) := ⟨HB3.out.trans (hB4.mono HB3.out.size)⟩
          obtain ⟨V, HV⟩ : ∃ x, Hid (w4.alloc (.cells #[.int .i64 y1, .int .i64 y2, .int .i64 y3] 27) = x) := ⟨_, ⟨rfl⟩⟩
          have HBV : Hid (Below wo.heap.size wo V) := ⟨by rw [← HV.out]; exact HB4.out.alloc HB4.out.size _⟩
          have HRV : Hid (RdE sh3 3 s0 V (.slice (some ⟨w4.heap.size, 0, none⟩) 1 1) [(y1, y2, y3)]) := ⟨by rw [← HV.out]; exact rde_one w4 ((y1, y2, y3) : Sh) rfl (sh3_one (y1, y2, y3)).2 27⟩
          have HOV : Hid (OwnE sh3 3 27 V w.heap.size (.slice a9 i c9) PR) := ⟨HO.out.far (Chg.ofBelow (X := []) HBV.out) (by simp)⟩
          have HB0V : Hid (Below w.heap.size w V) := ⟨HB.out.trans (HBV.out.mono HB.out.size)⟩
          have hl1 : (PR.length + [((y1, y2, y3) : Sh)].length) * 24 ≤ 140737488355328 := by rw [HPl.out]; simp; omega
          have hl2 : PR.length + [((y1, y2, y3) : Sh)].length ≤ maxLen := by rw [HPl.out]; unfold maxLen; simp; omega
          have hl3 : w.heap.size ≤ V.heap.size := HB0V.out.size
          have HXV : Hid (V.heap[B]? = some (.cells #[.map (some mb)] 48 (0, 0))) := ⟨(HBV.out.block B (Array.getElem?_eq_some_iff.1 HX.out).1).trans HX.out⟩
          have HMV : Hid (MsAt V mb M) := ⟨HM.out.far (Chg.ofBelow (X := []) HBV.out) (by simp)⟩
          clear t3 hB4 d0 d1
          go_wp2_with (first
            | (refine wp_sliceE eltS rfl (.tmp 38) rfl #[.int .i64 y1, .int .i64 y2, .int .i64 y3] rfl rfl (by decide) ?_; rw [HV.out])
            | (refine wp_appE (f := sh3) (d := s0) eltS rfl (.tmp 35) (.tmp 39) rfl rfl HOV.out rfl HRV.out hl1 hl2 hl3 ?_; intro v7 w7 hO7 hG7 hV7))
          have HG7 : Hid (Chg (ob (.slice a9 i c9)) V w7) := ⟨hG7⟩
          have HB7 : Hid (Below w.heap.size w w7) := ⟨HB0V.out.trans (HG7.out.below HB0V.out.size (fun x hx => (HOV.out.lt x hx).1))⟩
          have HO7 : Hid (OwnE sh3 3 27 w7 w.heap.size v7 ((F.take (i + 1)).map (shr L))) := ⟨by rw [HSn.out]; exact hO7⟩
          have HX7 : Hid (w7.heap[B]? = some (.cells #[.map (some mb)] 48 (0, 0))) := ⟨(HG7.out.block B (Array.getElem?_eq_some_iff.1 HXV.out).1 (fun hm => (HOV.out.ty B hm).ne (f := 48) ⟨_, HXV.out⟩ (by decide) rfl)).trans HXV.out⟩
          have HM7 : Hid (MsAt w7 mb M) := ⟨HMV.out.far HG7.out (fun hm => by
            obtain ⟨cs, hcs⟩ := HOV.out.ty mb hm
            obtain ⟨es, clk, hes, _⟩ := HMV.out
            rw [hes] at hcs
            cases hcs)⟩
          clear hO7 hG7 hV7
          go_roundg (n - (i + 1))
          case measure => omega
          case rel => exact ⟨i + 1, by omega, by omega, by go_num, HO7, HM7, HX7, HB7⟩
        · obtain rfl : n = i := by omega
          have HOf : Hid (OwnE sh3 3 27 wo w.heap.size (.slice a9 n c9) (F.map (shr L))) := ⟨by rw [← HTe.out, HPR.out]; exact HO.out⟩
          go_wp2_with fail
          go_ret
          exact ⟨_, rfl, HOf.out, HB.out⟩
end
end Go.Proofs.Ytjcojpddjhjhbaa
