/- The document's Copies. -/
import Derived.Test.YtjcojpddjhjhbaaC13
import Derived.BigQuiet
namespace Go.Proofs.Ytjcojpddjhjhbaa
open Go.RowKit Go.Lib

def i1 (x : Int) : List Value := [.int .i64 x]
theorem i1_one (x : Int) : (i1 x).length = 1 ∧ ∀ u ∈ i1 x, u.oneCell' = true := ⟨rfl, fun u hu => by simp [i1] at hu; subst hu; rfl⟩
theorem fl_i1 : ∀ (l : List Int), fl i1 l = iv l
  | [] => rfl
  | x :: l => by have := fl_i1 l; simp only [fl, iv, List.map_cons, List.flatten_cons, i1] at this ⊢; rw [this]; rfl
theorem eltI : Elt Try.prog 32 3 1 8 := by
  have h : ((Try.prog.info? 3).map (fun i => (i.size, i.bytes, (i.zero.map (fun z => z.cells.size))))) = some (1, 8, some 1) := by kernel_rfl
  refine ⟨Try.underlying32, ?_, by decide⟩
  cases hi : Try.prog.info? 3 with
  | none => rw [hi] at h; simp at h
  | some i =>
    rw [hi] at h
    simp at h
    obtain ⟨h1, h2, z, h3, h4⟩ := h
    exact ⟨i, z, rfl, h3, h1, h2, h4⟩
theorem owni_of {w : World} {base : Nat} {v : Value} {l : List Int} (h : OwnE i1 1 3 w base v l) : OwnI w base v l := by
  have := h.own
  rw [fl_i1] at this
  exact this
theorem own_some {α : Type} {f : α → List Value} {k : Nat} {e : TypeId} {w : World} {base : Nat} {v : Value} {M : List α} (h : OwnE f k e w base v M) (h0 : 0 < M.length) : v.ownBlock ≠ none := by
  obtain ⟨g, cap, e', _⟩ : ∃ g cap, v = .slice (some ⟨g, 0, none⟩) M.length cap ∧ True := by
    rcases h.own.2 with ⟨_, hz⟩ | ⟨g', cap', cur, e', _⟩
    · omega
    · exact ⟨g', cap', e', trivial⟩
  rw [e']
  simp [Value.ownBlock]
theorem own_g {α : Type} {f : α → List Value} {k : Nat} {e : TypeId} {w : World} {base : Nat} {a : Option Addr} {n c : Nat} {M : List α} (h : OwnE f k e w base (.slice a n c) M) (hs : (Value.slice a n c).ownBlock ≠ none) : ∃ g, a = some ⟨g, 0, none⟩ := by
  rcases h.own.2 with ⟨hz, _⟩ | ⟨g', cap', cur, e', _⟩
  · cases hz
    exact absurd rfl hs
  · simp at e'
    exact ⟨g', e'.1⟩
theorem drop_lt {M : List Int} (h : M.Pairwise (· < ·)) {k : Nat} {s : Int} (hk : k < M.length) (h1 : s < M.getD k 0) : ∀ y ∈ M.drop k, s < y := by
  intro y hy
  rw [List.drop_eq_getElem_cons hk] at hy
  have e : M.getD k 0 = M[k] := by simp [List.getD, List.getElem?_eq_getElem hk]
  rcases List.mem_cons.1 hy with rfl | hy
  · rw [← e]; exact h1
  · rw [e] at h1
    have h2 := h
    rw [← List.take_append_drop k M, List.pairwise_append] at h2
    have h3 := h2.2.1
    rw [List.drop_eq_getElem_cons hk, List.pairwise_cons] at h3
    have := h3.1 y hy
    omega
theorem take_lt_snoc {M : List Int} {k : Nat} {s : Int} (hk : k < M.length) (h : ∀ y ∈ M.take k, y < s) (h1 : M.getD k 0 < s) : ∀ y ∈ M.take (k + 1), y < s := by
  intro y hy
  rw [List.take_add_one, List.getElem?_eq_getElem hk] at hy
  rw [List.mem_append] at hy
  rcases hy with hy | hy
  · exact h y hy
  · simp at hy
    subst hy
    simpa [List.getD, List.getElem?_eq_getElem hk] using h1
section
variable {w : World}
set_option maxHeartbeats 16000000 in
set_option maxRecDepth 100000 in
theorem rcopies17 (bin : Int) (v : Value) (L : List Sp) (h : RdE sp2 2 q0 w v L) (hL : L.length ≤ 1000000000000) :
    Calls Try.prog 17 #[.int .i64 bin, v] w fun e w' => ∃ x, e = .returned x ∧ ∃ M, OwnE i1 1 3 w' w.heap.size x M ∧ M.Pairwise (· < ·) ∧ (∀ y, y ∈ M ↔ y ∈ slots bin L) ∧ M.length ≤ L.length ∧ Below w.heap.size w w' := by
  have H := Hid.mk h
  obtain ⟨av, cv, rfl, hcv, hcm, _⟩ := h.shape
  obtain ⟨n, Hn⟩ : ∃ n, Hid (L.length = n) := ⟨_, ⟨rfl⟩⟩
  rw [Hn.out] at H hcv hL ⊢
  have hcvx : cv ≤ 9223372036854775807 := hcm
  have HTe : Hid (L.take n = L) := ⟨List.take_of_length_le (by rw [Hn.out]; exact Nat.le_refl _)⟩
  have HO0 : Hid (OwnE i1 1 3 (w.alloc (.cells #[] 3)) w.heap.size (.slice (some ⟨w.heap.size, 0, none⟩) 0 0) []) := ⟨OwnE.none i1 1 3 w⟩
  clear h
  go_enter Try.func17, Try.ntmps17
  go_wp2_with fail
  go_loopg [5, 6, 7, 8] n (fun gg s5 s6 _ _ wr => ∃ i : Nat, ∃ M : List Int, i ≤ n ∧ n - i ≤ gg ∧ s6 = .int .i64 (i : Int) ∧ Hid (OwnE i1 1 3 wr w.heap.size s5 M) ∧ Hid (M.Pairwise (· < ·)) ∧ Hid (∀ y, y ∈ M ↔ y ∈ slots bin (L.take i)) ∧ Hid (M.length ≤ i) ∧ Hid (Below w.heap.size w wr) ∧ Hid (s5.ownBlock ≠ none))
  case atStart => exact ⟨0, [], Nat.zero_le _, by omega, rfl, HO0, ⟨List.Pairwise.nil⟩, ⟨by simp [slots]⟩, ⟨Nat.le_refl _⟩, ⟨(Below.refl _ w).alloc (Nat.le_refl _) _⟩, ⟨by simp [Value.ownBlock]⟩⟩
  case round =>
    clear HO0
    obtain ⟨i, M, hi, hgg, rfl, HO, HSr, HMm, HMl, HB, Hsome⟩ := hrel
    rename World => wo
    obtain ⟨a3, c3, e3, hc3, hc3m, _⟩ := (HO.out.rd 0).shape
    subst e3
    obtain ⟨m, Hm⟩ : ∃ x, Hid (M.length = x) := ⟨_, ⟨rfl⟩⟩
    rw [Hm.out] at HO HMl hc3 Hsome ⊢
    by_cases hlt : i < n
    · have hltz : (i : Int) < (n : Int) := by omega
      have hiL : i < L.length := by rw [Hn.out]; exact hlt
      obtain ⟨b, off, cap, e, hc⟩ := (H.out.far (Chg.ofBelow (X := []) HB.out) (by simp)).at' i hiL
      rw [Hn.out] at e
      simp at e
      obtain ⟨rfl, rfl⟩ := e
      have HSs := Hid.mk (slots_snoc (bin := bin) hiL)
      generalize L.getD i q0 = x at hc HSs
      obtain ⟨x1, x2⟩ := x
      have c0 := hc 0 (by decide)
      have c1 := hc 1 (by decide)
      clear hc
      simp [sp2] at c0 c1
      obtain ⟨g, eg⟩ := own_g HO.out Hsome.out
      subst eg
      clear Hsome
      by_cases hx : x1 = bin
      · have HTk : Hid (∀ y, y ∈ slots bin (L.take (i + 1)) ↔ y ∈ slots bin (L.take i) ∨ y = x2) := ⟨fun y => by rw [HSs.out]; simp [hx]⟩
        have hxb : (x1 != bin) = false := by simp [hx]
        clear hx HSs
        have HCw : Hid (∀ W, Below w.heap.size w W → True) := ⟨fun _ _ => trivial⟩
        have Hci0 := Hid.mk c1
        go_wp2_with fail
        go_loopg [7] m (fun gg2 s7 wr => ∃ k : Nat, k ≤ m ∧ m - k ≤ gg2 ∧ s7 = .int .i64 (k : Int) ∧ Hid (∀ y ∈ M.take k, y < x2) ∧ Hid (OwnE i1 1 3 wr w.heap.size (.slice (some ⟨g, 0, none⟩) m c3) M) ∧ Hid (wr.cell? ⟨b, off + i * 2 + 1, none⟩ = some (.int .i64 x2)) ∧ Hid (Below w.heap.size w wr))
        case atStart => exact ⟨0, Nat.zero_le _, by omega, rfl, ⟨by simp⟩, HO, Hci0, HB⟩
        case round =>
          clear HO HB Hci0 HCw
          obtain ⟨k, hk, hgg2, rfl, Hbef, HOr, HCr, HBr⟩ := hrel
          rename World => wk
          have hmb : m ≤ 1000000000000 := by have := HMl.out; omega
          have hmc : m ≤ c3 := hc3
          have hcx : c3 ≤ 9223372036854775807 := hc3m
          have e1 := HCr.out
          by_cases hkm : k < m
          · have hkmz : (k : Int) < (m : Int) := by omega
            have hkL : k < M.length := by rw [Hm.out]; exact hkm
            have e0 := own_cellE HOr.out 0 (i := k) (j := 0) hkL (by decide)
            simp only [Nat.mul_one, Nat.add_zero] at e0
            have HdL := Hid.mk (drop_lt (s := x2) HSr.out hkL)
            have HtS := Hid.mk (take_lt_snoc (s := x2) hkL Hbef.out)
            have HuM : Hid (M.getD k 0 ∈ M) := ⟨getD_mem' hkL⟩
            generalize M.getD k 0 = uu at e0 HdL HtS HuM
            have e0' : wk.cell? ⟨g, k, none⟩ = some (.int .i64 uu) := e0
            clear e0
            by_cases hls : uu < x2
            · have Hnx := Hid.mk (HtS.out hls)
              go_upto_region 7 with fail
              go_quiet (fail)
              go_wp2_with fail
              go_roundg (m - (k + 1))
              case measure => omega
              case rel => exact ⟨k + 1, by omega, by omega, by go_num, Hnx, ⟨HOr.out.far (Chg.ofBelow (X := []) (below_drewN (Below.refl _ wk) nq)) (by simp)⟩, ⟨HCr.out⟩, ⟨below_drewN HBr.out nq⟩⟩
            · go_upto_region 7 with fail
              go_quiet (fail)
              have HOs : Hid (OwnE i1 1 3 (wk.drewN nq) w.heap.size (.slice (some ⟨g, 0, none⟩) m c3) M) := ⟨HOr.out.far (Chg.ofBelow (X := []) (below_drewN (Below.refl _ wk) nq)) (by simp)⟩
              have HCs : Hid ((wk.drewN nq).cell? ⟨b, off + i * 2 + 1, none⟩ = some (.int .i64 x2)) := ⟨HCr.out⟩
              have HBs : Hid (Below w.heap.size w (wk.drewN nq)) := ⟨below_drewN HBr.out nq⟩
              have g0 : (wk.drewN nq).cell? ⟨g, k, none⟩ = some (.int .i64 uu) := e0'
              obtain ⟨ws, Hws⟩ : ∃ x, Hid (wk.drewN nq = x) := ⟨_, ⟨rfl⟩⟩
              rw [Hws.out] at HOs HCs HBs g0 ⊢
              clear HOr HCr HBr Hws e0' e1
              have g1 := HCs.out
              by_cases heq : uu = x2
              · have Hin : Hid (x2 ∈ M) := ⟨heq ▸ HuM.out⟩
                have hq : (uu == x2) = true := by simp [heq]
                clear heq
                go_upto_region 9 with fail
                go_quiet (fail)
                go_wp2_with fail
                go_roundg (n - (i + 1))
                case measure => omega
                case rel => exact ⟨i + 1, M, by omega, by omega, by go_num, ⟨HOs.out.far (Chg.ofBelow (X := []) (below_drewN (Below.refl _ ws) nq)) (by simp)⟩, HSr, ⟨fun y => by rw [HTk.out, ← HMm.out]; exact ⟨fun h => .inl h, fun h => h.elim id (fun e => e ▸ Hin.out)⟩⟩, ⟨by rw [Hm.out]; have := HMl.out; omega⟩, ⟨below_drewN HBs.out nq⟩, ⟨by simp [Value.ownBlock]⟩⟩
              · have Haft := Hid.mk (HdL.out (by omega))
                have hq : (uu == x2) = false := by simp [heq]
                clear heq
                go_upto_region 9 with fail
                go_quiet (fail)
                have HOi : Hid (OwnE i1 1 3 (ws.drewN nq) w.heap.size (.slice (some ⟨g, 0, none⟩) m c3) M) := ⟨HOs.out.far (Chg.ofBelow (X := []) (below_drewN (Below.refl _ ws) nq)) (by simp)⟩
                have Hci : Hid ((ws.drewN nq).cell? ⟨b, off + i * 2 + 1, none⟩ = some (.int .i64 x2)) := ⟨HCs.out⟩
                have HBi : Hid (Below w.heap.size w (ws.drewN nq)) := ⟨below_drewN HBs.out nq⟩
                clear HOs HCs HBs g0 g1 hq
                obtain ⟨wi, Hwi⟩ : ∃ x, Hid (ws.drewN nq = x) := ⟨_, ⟨rfl⟩⟩
                rw [Hwi.out] at HOi Hci HBi ⊢
                clear Hwi HdL HtS HuM c0 c1
                have HRT : Hid (RdE i1 1 0 wi (.slice (some ⟨g, 0, none⟩) k c3) (M.take k)) := ⟨(HOi.out.rd 0).take' Hm.out (by omega)⟩
                obtain ⟨V1, HV1⟩ : ∃ x, Hid (wi.alloc (.cells #[] 3) = x) := ⟨_, ⟨rfl⟩⟩
                have HBV1 : Hid (Below wi.heap.size wi V1) := ⟨by rw [← HV1.out]; exact (Below.refl _ wi).alloc (Nat.le_refl _) _⟩
                have HN1 : Hid (OwnE i1 1 3 V1 w.heap.size (.slice (some ⟨wi.heap.size, 0, none⟩) 0 0) []) := ⟨by rw [← HV1.out]; exact (OwnE.none i1 1 3 wi).base HBi.out.size⟩
                have HRT1 : Hid (RdE i1 1 0 V1 (.slice (some ⟨g, 0, none⟩) k c3) (M.take k)) := ⟨HRT.out.far (Chg.ofBelow (X := []) HBV1.out) (by simp)⟩
                obtain ⟨z1, Hz1⟩ : ∃ x, Hid (wi.heap.size = x) := ⟨_, ⟨rfl⟩⟩
                have Hgz : Hid (g < z1) := ⟨by rw [← Hz1.out]; exact (HOi.out.lt g (by simp [ob, Value.ownBlock])).2⟩
                have Hwz : Hid (w.heap.size ≤ z1) := ⟨by rw [← Hz1.out]; exact HBi.out.size⟩
                have HV1s : Hid (V1.heap.size = z1 + 1) := ⟨by rw [← HV1.out, ← Hz1.out]; simp⟩
                rw [Hz1.out] at HN1
                have hl1 : (([] : List Int).length + (M.take k).length) * 8 ≤ 140737488355328 := by rw [List.length_take, Hm.out]; simp; omega
                have hl2 : ([] : List Int).length + (M.take k).length ≤ maxLen := by rw [List.length_take, Hm.out]; unfold maxLen; simp; omega
                have hl3 : w.heap.size ≤ V1.heap.size := by have := HV1s.out; have := Hwz.out; omega
                have Hlt : Hid ((M.take k).length = k) := ⟨by rw [List.length_take, Hm.out]; omega⟩
                have hkm0 : (k : Int) ≤ (m : Int) := by omega
                have hkc0 : (k : Int) ≤ (c3 : Int) := by omega
                have hkm1 : k ≤ m := by omega
                have hkc1 : k ≤ c3 := by omega
                go_upto_region 11 with (first
                  | (rw [HV1.out, Hz1.out])
                  | (refine wp_appE (f := i1) (d := 0) eltI rfl (.tmp 57) (.tmp 60) rfl rfl HN1.out rfl HRT1.out hl1 hl2 hl3 ?_; intro v4 w4 hO4 hG4 hV4))
                obtain ⟨a4, c4, e4, _⟩ := (hO4.rd 0).shape
                rw [List.nil_append] at hO4 e4
                subst e4
                rw [Hlt.out] at hO4 hV4 ⊢
                have HG4' : Hid (Chg (ob (.slice (some ⟨z1, 0, none⟩) 0 0)) V1 w4) := ⟨hG4⟩
                have HG4 : Hid (Chg [z1] V1 w4) := ⟨by have := HG4'.out; simpa [ob, Value.ownBlock] using this⟩
                have hV4' : (Value.slice a4 k c4).ownBlock = (Value.slice (some ⟨z1, 0, none⟩) 0 0).ownBlock ∨ (Value.slice a4 k c4).ownBlock = some V1.heap.size := hV4
                have HO4 := Hid.mk hO4
                have Hv4 : Hid (∀ x ∈ ob (.slice a4 k c4), z1 ≤ x) := ⟨fun x hx => by
                  rw [mem_ob] at hx
                  rcases hV4' with e | e
                  · rw [e] at hx; simp [Value.ownBlock] at hx; omega
                  · rw [e, HV1s.out] at hx; simp at hx; omega⟩
                have HB4 : Hid (Below w.heap.size w w4) := ⟨(HBi.out.trans (HBV1.out.mono HBi.out.size)).trans (HG4.out.below (by have := HV1s.out; have := Hwz.out; omega) (by have := Hwz.out; simpa using this))⟩
                have HCD4 : Hid (Chg [] wi w4) := ⟨(Chg.ofBelow (X := []) HBV1.out).thenNew HG4.out (by have := Hz1.out; simp; omega)⟩
                have c4' : w4.cell? ⟨b, off + i * 2 + 1, none⟩ = some (.int .i64 x2) := (HCD4.out.cell (a := ⟨b, off + i * 2 + 1, none⟩) (World.block_lt_of_cell? _ _ Hci.out) (by simp)).trans Hci.out
                clear hO4 hG4 hV4 hV4' HG4' HRT HRT1 HN1
                obtain ⟨V5, HV5⟩ : ∃ x, Hid (w4.alloc (.cells #[.int .i64 x2] 3) = x) := ⟨_, ⟨rfl⟩⟩
                have HBV5 : Hid (Below w4.heap.size w4 V5) := ⟨by rw [← HV5.out]; exact (Below.refl _ w4).alloc (Nat.le_refl _) _⟩
                have HR5 : Hid (RdE i1 1 0 V5 (.slice (some ⟨w4.heap.size, 0, none⟩) 1 1) [x2]) := ⟨by rw [← HV5.out]; exact rde_one w4 (x2 : Int) rfl (i1_one x2).2 3⟩
                have HO5 : Hid (OwnE i1 1 3 V5 w.heap.size (.slice a4 k c4) (M.take k)) := ⟨HO4.out.far (Chg.ofBelow (X := []) HBV5.out) (by simp)⟩
                have HB5 : Hid (Below w.heap.size w V5) := ⟨HB4.out.trans (HBV5.out.mono HB4.out.size)⟩
                have hm1 : ((M.take k).length + [(x2 : Int)].length) * 8 ≤ 140737488355328 := by rw [Hlt.out]; simp; omega
                have hm2 : (M.take k).length + [(x2 : Int)].length ≤ maxLen := by rw [Hlt.out]; unfold maxLen; simp; omega
                have hm3 : w.heap.size ≤ V5.heap.size := HB5.out.size
                go_upto_region 12 with (first
                  | (refine wp_sliceE eltI rfl (.tmp 67) rfl #[.int .i64 x2] rfl rfl (by decide) ?_; rw [HV5.out])
                  | (rw [HV5.out]; refine wp_appE (f := i1) (d := 0) eltI rfl (.tmp 62) (.tmp 68) rfl rfl HO5.out rfl HR5.out hm1 hm2 hm3 ?_; intro v6 w6 hO6 hG6 hV6)
                  | (refine wp_appE (f := i1) (d := 0) eltI rfl (.tmp 62) (.tmp 68) rfl rfl HO5.out rfl HR5.out hm1 hm2 hm3 ?_; intro v6 w6 hO6 hG6 hV6))
                obtain ⟨a6, c6, e6, _⟩ := (hO6.rd 0).shape
                subst e6
                have HG6 : Hid (Chg (ob (.slice a4 k c4)) V5 w6) := ⟨hG6⟩
                obtain ⟨n6, Hn6⟩ : ∃ x, Hid ((M.take k ++ [(x2 : Int)]).length = x) := ⟨_, ⟨rfl⟩⟩
                have Hn6k : Hid (n6 = k + 1) := ⟨by rw [← Hn6.out, List.length_append, Hlt.out]; rfl⟩
                rw [Hn6.out] at hO6 hV6 ⊢
                have HO6 := Hid.mk hO6
                have HB6 : Hid (Below w.heap.size w w6) := ⟨HB5.out.trans (HG6.out.below HB5.out.size (fun x hx => (HO5.out.lt x hx).1))⟩
                have HCD6 : Hid (Chg [] wi w6) := ⟨(HCD4.out.trans (Chg.ofBelow HBV5.out)).thenNew HG6.out (fun x hx => .inr (by rw [Hz1.out]; exact Hv4.out x hx))⟩
                have HRD : Hid (RdE i1 1 0 w6 (.slice (some ⟨g, k, none⟩) (m - k) (c3 - k)) (M.drop k)) := ⟨by
                  have h0 := (HOi.out.far HCD6.out (by simp)).rd 0
                  have h1 := h0.drop' Hm.out (j := k) (by omega)
                  rw [Nat.zero_add, Nat.mul_one] at h1
                  exact h1⟩
                have hn1 : ((M.take k ++ [(x2 : Int)]).length + (M.drop k).length) * 8 ≤ 140737488355328 := by rw [Hn6.out, Hn6k.out, List.length_drop, Hm.out]; omega
                have hn2 : (M.take k ++ [(x2 : Int)]).length + (M.drop k).length ≤ maxLen := by rw [Hn6.out, Hn6k.out, List.length_drop, Hm.out]; unfold maxLen; omega
                have hn3 : w.heap.size ≤ w6.heap.size := HB6.out.size
                have HLen : Hid ((M.take k ++ [(x2 : Int)] ++ M.drop k).length = m + 1) := ⟨by rw [List.length_append, Hn6.out, Hn6k.out, List.length_drop, Hm.out]; omega⟩
                clear hO6 hG6 hV6 c4' HV5 HV1
                have hck : ¬ c3 = k := by omega
                have hck' : ¬ k = c3 := by omega
                go_wp2_with (refine wp_appE (f := i1) (d := 0) eltI rfl (.tmp 70) (.tmp 73) rfl rfl HO6.out rfl HRD.out hn1 hn2 hn3 ?_; intro v7 w7 hO7 hG7 hV7)
                have HO7 := Hid.mk hO7
                have HB7 : Hid (Below w.heap.size w w7) := ⟨HB6.out.trans (Chg.below hG7 HB6.out.size (fun x hx => (HO6.out.lt x hx).1))⟩
                clear hO7 hG7 hV7
                go_roundg (n - (i + 1))
                case measure => omega
                case rel => exact ⟨i + 1, _, by omega, by omega, by go_num, HO7, ⟨rise_in HSr.out (fun y hy => Hbef.out y hy) (fun y hy => Haft.out y hy)⟩, ⟨fun y => by rw [mem_in, HTk.out, HMm.out]; exact or_comm⟩, ⟨by rw [HLen.out]; have := HMl.out; omega⟩, HB7, ⟨own_some HO7.out (by rw [HLen.out]; omega)⟩⟩
          · have Hkm : Hid (k = m) := ⟨by omega⟩
            have hkmz : ¬ (k : Int) < (m : Int) := by omega
            have Haft : Hid (∀ y ∈ M.drop k, x2 < y) := ⟨fun y hy => by rw [List.drop_eq_nil_of_le (by rw [Hm.out]; omega)] at hy; simp at hy⟩
            go_upto_region 7 with fail
            go_quiet (fail)
            have HOs : Hid (OwnE i1 1 3 (wk.drewN nq) w.heap.size (.slice (some ⟨g, 0, none⟩) m c3) M) := ⟨HOr.out.far (Chg.ofBelow (X := []) (below_drewN (Below.refl _ wk) nq)) (by simp)⟩
            have HCs : Hid ((wk.drewN nq).cell? ⟨b, off + i * 2 + 1, none⟩ = some (.int .i64 x2)) := ⟨HCr.out⟩
            have HBs : Hid (Below w.heap.size w (wk.drewN nq)) := ⟨below_drewN HBr.out nq⟩
            obtain ⟨ws, Hws⟩ : ∃ x, Hid (wk.drewN nq = x) := ⟨_, ⟨rfl⟩⟩
            rw [Hws.out] at HOs HCs HBs ⊢
            clear HOr HCr HBr Hws e1
            go_upto_region 9 with fail
            go_quiet (fail)
            have HOi : Hid (OwnE i1 1 3 (ws.drewN nq) w.heap.size (.slice (some ⟨g, 0, none⟩) m c3) M) := ⟨HOs.out.far (Chg.ofBelow (X := []) (below_drewN (Below.refl _ ws) nq)) (by simp)⟩
            have Hci : Hid ((ws.drewN nq).cell? ⟨b, off + i * 2 + 1, none⟩ = some (.int .i64 x2)) := ⟨HCs.out⟩
            have HBi : Hid (Below w.heap.size w (ws.drewN nq)) := ⟨below_drewN HBs.out nq⟩
            clear HOs HCs HBs
            obtain ⟨wi, Hwi⟩ : ∃ x, Hid (ws.drewN nq = x) := ⟨_, ⟨rfl⟩⟩
            rw [Hwi.out] at HOi Hci HBi ⊢
            clear Hwi c0 c1
            by_cases hck : c3 = k
            · have hck2 : k = c3 := hck.symm
              clear hck
              subst hck2
              have HRT : Hid (RdE i1 1 0 wi (.slice (some ⟨g, 0, none⟩) k k) (M.take k)) := ⟨(HOi.out.rd 0).take' Hm.out (by omega)⟩
              obtain ⟨V1, HV1⟩ : ∃ x, Hid (wi.alloc (.cells #[] 3) = x) := ⟨_, ⟨rfl⟩⟩
              have HBV1 : Hid (Below wi.heap.size wi V1) := ⟨by rw [← HV1.out]; exact (Below.refl _ wi).alloc (Nat.le_refl _) _⟩
              have HN1 : Hid (OwnE i1 1 3 V1 w.heap.size (.slice (some ⟨wi.heap.size, 0, none⟩) 0 0) []) := ⟨by rw [← HV1.out]; exact (OwnE.none i1 1 3 wi).base HBi.out.size⟩
              have HRT1 : Hid (RdE i1 1 0 V1 (.slice (some ⟨g, 0, none⟩) k k) (M.take k)) := ⟨HRT.out.far (Chg.ofBelow (X := []) HBV1.out) (by simp)⟩
              obtain ⟨z1, Hz1⟩ : ∃ x, Hid (wi.heap.size = x) := ⟨_, ⟨rfl⟩⟩
              have Hgz : Hid (g < z1) := ⟨by rw [← Hz1.out]; exact (HOi.out.lt g (by simp [ob, Value.ownBlock])).2⟩
              have Hwz : Hid (w.heap.size ≤ z1) := ⟨by rw [← Hz1.out]; exact HBi.out.size⟩
              have HV1s : Hid (V1.heap.size = z1 + 1) := ⟨by rw [← HV1.out, ← Hz1.out]; simp⟩
              rw [Hz1.out] at HN1
              have hl1 : (([] : List Int).length + (M.take k).length) * 8 ≤ 140737488355328 := by rw [List.length_take, Hm.out]; simp; omega
              have hl2 : ([] : List Int).length + (M.take k).length ≤ maxLen := by rw [List.length_take, Hm.out]; unfold maxLen; simp; omega
              have hl3 : w.heap.size ≤ V1.heap.size := by have := HV1s.out; have := Hwz.out; omega
              have Hlt : Hid ((M.take k).length = k) := ⟨by rw [List.length_take, Hm.out]; omega⟩
              have hkm0 : (k : Int) ≤ (m : Int) := by omega
              have hkc0 : (k : Int) ≤ (k : Int) := by omega
              have hkm1 : k ≤ m := by omega
              have hkc1 : k ≤ k := by omega
              go_upto_region 11 with (first
                | (rw [HV1.out, Hz1.out])
                | (refine wp_appE (f := i1) (d := 0) eltI rfl (.tmp 57) (.tmp 60) rfl rfl HN1.out rfl HRT1.out hl1 hl2 hl3 ?_; intro v4 w4 hO4 hG4 hV4))
              obtain ⟨a4, c4, e4, _⟩ := (hO4.rd 0).shape
              rw [List.nil_append] at hO4 e4
              subst e4
              rw [Hlt.out] at hO4 hV4 ⊢
              have HG4' : Hid (Chg (ob (.slice (some ⟨z1, 0, none⟩) 0 0)) V1 w4) := ⟨hG4⟩
              have HG4 : Hid (Chg [z1] V1 w4) := ⟨by have := HG4'.out; simpa [ob, Value.ownBlock] using this⟩
              have hV4' : (Value.slice a4 k c4).ownBlock = (Value.slice (some ⟨z1, 0, none⟩) 0 0).ownBlock ∨ (Value.slice a4 k c4).ownBlock = some V1.heap.size := hV4
              have HO4 := Hid.mk hO4
              have Hv4 : Hid (∀ x ∈ ob (.slice a4 k c4), z1 ≤ x) := ⟨fun x hx => by
                rw [mem_ob] at hx
                rcases hV4' with e | e
                · rw [e] at hx; simp [Value.ownBlock] at hx; omega
                · rw [e, HV1s.out] at hx; simp at hx; omega⟩
              have HB4 : Hid (Below w.heap.size w w4) := ⟨(HBi.out.trans (HBV1.out.mono HBi.out.size)).trans (HG4.out.below (by have := HV1s.out; have := Hwz.out; omega) (by have := Hwz.out; simpa using this))⟩
              have HCD4 : Hid (Chg [] wi w4) := ⟨(Chg.ofBelow (X := []) HBV1.out).thenNew HG4.out (by have := Hz1.out; simp; omega)⟩
              have c4' : w4.cell? ⟨b, off + i * 2 + 1, none⟩ = some (.int .i64 x2) := (HCD4.out.cell (a := ⟨b, off + i * 2 + 1, none⟩) (World.block_lt_of_cell? _ _ Hci.out) (by simp)).trans Hci.out
              clear hO4 hG4 hV4 hV4' HG4' HRT HRT1 HN1
              obtain ⟨V5, HV5⟩ : ∃ x, Hid (w4.alloc (.cells #[.int .i64 x2] 3) = x) := ⟨_, ⟨rfl⟩⟩
              have HBV5 : Hid (Below w4.heap.size w4 V5) := ⟨by rw [← HV5.out]; exact (Below.refl _ w4).alloc (Nat.le_refl _) _⟩
              have HR5 : Hid (RdE i1 1 0 V5 (.slice (some ⟨w4.heap.size, 0, none⟩) 1 1) [x2]) := ⟨by rw [← HV5.out]; exact rde_one w4 (x2 : Int) rfl (i1_one x2).2 3⟩
              have HO5 : Hid (OwnE i1 1 3 V5 w.heap.size (.slice a4 k c4) (M.take k)) := ⟨HO4.out.far (Chg.ofBelow (X := []) HBV5.out) (by simp)⟩
              have HB5 : Hid (Below w.heap.size w V5) := ⟨HB4.out.trans (HBV5.out.mono HB4.out.size)⟩
              have hm1 : ((M.take k).length + [(x2 : Int)].length) * 8 ≤ 140737488355328 := by rw [Hlt.out]; simp; omega
              have hm2 : (M.take k).length + [(x2 : Int)].length ≤ maxLen := by rw [Hlt.out]; unfold maxLen; simp; omega
              have hm3 : w.heap.size ≤ V5.heap.size := HB5.out.size
              go_upto_region 12 with (first
                | (refine wp_sliceE eltI rfl (.tmp 67) rfl #[.int .i64 x2] rfl rfl (by decide) ?_; rw [HV5.out])
                | (rw [HV5.out]; refine wp_appE (f := i1) (d := 0) eltI rfl (.tmp 62) (.tmp 68) rfl rfl HO5.out rfl HR5.out hm1 hm2 hm3 ?_; intro v6 w6 hO6 hG6 hV6)
                | (refine wp_appE (f := i1) (d := 0) eltI rfl (.tmp 62) (.tmp 68) rfl rfl HO5.out rfl HR5.out hm1 hm2 hm3 ?_; intro v6 w6 hO6 hG6 hV6))
              obtain ⟨a6, c6, e6, _⟩ := (hO6.rd 0).shape
              subst e6
              have HG6 : Hid (Chg (ob (.slice a4 k c4)) V5 w6) := ⟨hG6⟩
              obtain ⟨n6, Hn6⟩ : ∃ x, Hid ((M.take k ++ [(x2 : Int)]).length = x) := ⟨_, ⟨rfl⟩⟩
              have Hn6k : Hid (n6 = k + 1) := ⟨by rw [← Hn6.out, List.length_append, Hlt.out]; rfl⟩
              rw [Hn6.out] at hO6 hV6 ⊢
              have HO6 := Hid.mk hO6
              have HB6 : Hid (Below w.heap.size w w6) := ⟨HB5.out.trans (HG6.out.below HB5.out.size (fun x hx => (HO5.out.lt x hx).1))⟩
              have HCD6 : Hid (Chg [] wi w6) := ⟨(HCD4.out.trans (Chg.ofBelow HBV5.out)).thenNew HG6.out (fun x hx => .inr (by rw [Hz1.out]; exact Hv4.out x hx))⟩
              have HRD : Hid (RdE i1 1 0 w6 (.slice (some ⟨g, 0, none⟩) 0 0) (M.drop k)) := ⟨by
                have e : M.drop k = [] := List.drop_eq_nil_of_le (by rw [Hm.out]; have := Hkm.out; omega)
                rw [e]
                exact RdE.none' (by unfold maxLen; omega) (by simp)⟩
              have hn1 : ((M.take k ++ [(x2 : Int)]).length + (M.drop k).length) * 8 ≤ 140737488355328 := by rw [Hn6.out, Hn6k.out, List.length_drop, Hm.out]; omega
              have hn2 : (M.take k ++ [(x2 : Int)]).length + (M.drop k).length ≤ maxLen := by rw [Hn6.out, Hn6k.out, List.length_drop, Hm.out]; unfold maxLen; omega
              have hn3 : w.heap.size ≤ w6.heap.size := HB6.out.size
              have HLen : Hid ((M.take k ++ [(x2 : Int)] ++ M.drop k).length = m + 1) := ⟨by rw [List.length_append, Hn6.out, Hn6k.out, List.length_drop, Hm.out]; omega⟩
              clear hO6 hG6 hV6 c4' HV5 HV1
              go_wp2_with (refine wp_appE (f := i1) (d := 0) eltI rfl (.tmp 70) (.tmp 73) rfl rfl HO6.out rfl HRD.out hn1 hn2 hn3 ?_; intro v7 w7 hO7 hG7 hV7)
              have HO7 := Hid.mk hO7
              have HB7 : Hid (Below w.heap.size w w7) := ⟨HB6.out.trans (Chg.below hG7 HB6.out.size (fun x hx => (HO6.out.lt x hx).1))⟩
              clear hO7 hG7 hV7
              go_roundg (n - (i + 1))
              case measure => omega
              case rel => exact ⟨i + 1, _, by omega, by omega, by go_num, HO7, ⟨rise_in HSr.out (fun y hy => Hbef.out y hy) (fun y hy => Haft.out y hy)⟩, ⟨fun y => by rw [mem_in, HTk.out, HMm.out]; exact or_comm⟩, ⟨by rw [HLen.out]; have := HMl.out; omega⟩, HB7, ⟨own_some HO7.out (by rw [HLen.out]; omega)⟩⟩
            · skip
              have HRT : Hid (RdE i1 1 0 wi (.slice (some ⟨g, 0, none⟩) k c3) (M.take k)) := ⟨(HOi.out.rd 0).take' Hm.out (by omega)⟩
              obtain ⟨V1, HV1⟩ : ∃ x, Hid (wi.alloc (.cells #[] 3) = x) := ⟨_, ⟨rfl⟩⟩
              have HBV1 : Hid (Below wi.heap.size wi V1) := ⟨by rw [← HV1.out]; exact (Below.refl _ wi).alloc (Nat.le_refl _) _⟩
              have HN1 : Hid (OwnE i1 1 3 V1 w.heap.size (.slice (some ⟨wi.heap.size, 0, none⟩) 0 0) []) := ⟨by rw [← HV1.out]; exact (OwnE.none i1 1 3 wi).base HBi.out.size⟩
              have HRT1 : Hid (RdE i1 1 0 V1 (.slice (some ⟨g, 0, none⟩) k c3) (M.take k)) := ⟨HRT.out.far (Chg.ofBelow (X := []) HBV1.out) (by simp)⟩
              obtain ⟨z1, Hz1⟩ : ∃ x, Hid (wi.heap.size = x) := ⟨_, ⟨rfl⟩⟩
              have Hgz : Hid (g < z1) := ⟨by rw [← Hz1.out]; exact (HOi.out.lt g (by simp [ob, Value.ownBlock])).2⟩
              have Hwz : Hid (w.heap.size ≤ z1) := ⟨by rw [← Hz1.out]; exact HBi.out.size⟩
              have HV1s : Hid (V1.heap.size = z1 + 1) := ⟨by rw [← HV1.out, ← Hz1.out]; simp⟩
              rw [Hz1.out] at HN1
              have hl1 : (([] : List Int).length + (M.take k).length) * 8 ≤ 140737488355328 := by rw [List.length_take, Hm.out]; simp; omega
              have hl2 : ([] : List Int).length + (M.take k).length ≤ maxLen := by rw [List.length_take, Hm.out]; unfold maxLen; simp; omega
              have hl3 : w.heap.size ≤ V1.heap.size := by have := HV1s.out; have := Hwz.out; omega
              have Hlt : Hid ((M.take k).length = k) := ⟨by rw [List.length_take, Hm.out]; omega⟩
              have hkm0 : (k : Int) ≤ (m : Int) := by omega
              have hkc0 : (k : Int) ≤ (c3 : Int) := by omega
              have hkm1 : k ≤ m := by omega
              have hkc1 : k ≤ c3 := by omega
              go_upto_region 11 with (first
                | (rw [HV1.out, Hz1.out])
                | (refine wp_appE (f := i1) (d := 0) eltI rfl (.tmp 57) (.tmp 60) rfl rfl HN1.out rfl HRT1.out hl1 hl2 hl3 ?_; intro v4 w4 hO4 hG4 hV4))
              obtain ⟨a4, c4, e4, _⟩ := (hO4.rd 0).shape
              rw [List.nil_append] at hO4 e4
              subst e4
              rw [Hlt.out] at hO4 hV4 ⊢
              have HG4' : Hid (Chg (ob (.slice (some ⟨z1, 0, none⟩) 0 0)) V1 w4) := ⟨hG4⟩
              have HG4 : Hid (Chg [z1] V1 w4) := ⟨by have := HG4'.out; simpa [ob, Value.ownBlock] using this⟩
              have hV4' : (Value.slice a4 k c4).ownBlock = (Value.slice (some ⟨z1, 0, none⟩) 0 0).ownBlock ∨ (Value.slice a4 k c4).ownBlock = some V1.heap.size := hV4
              have HO4 := Hid.mk hO4
              have Hv4 : Hid (∀ x ∈ ob (.slice a4 k c4), z1 ≤ x) := ⟨fun x hx => by
                rw [mem_ob] at hx
                rcases hV4' with e | e
                · rw [e] at hx; simp [Value.ownBlock] at hx; omega
                · rw [e, HV1s.out] at hx; simp at hx; omega⟩
              have HB4 : Hid (Below w.heap.size w w4) := ⟨(HBi.out.trans (HBV1.out.mono HBi.out.size)).trans (HG4.out.below (by have := HV1s.out; have := Hwz.out; omega) (by have := Hwz.out; simpa using this))⟩
              have HCD4 : Hid (Chg [] wi w4) := ⟨(Chg.ofBelow (X := []) HBV1.out).thenNew HG4.out (by have := Hz1.out; simp; omega)⟩
              have c4' : w4.cell? ⟨b, off + i * 2 + 1, none⟩ = some (.int .i64 x2) := (HCD4.out.cell (a := ⟨b, off + i * 2 + 1, none⟩) (World.block_lt_of_cell? _ _ Hci.out) (by simp)).trans Hci.out
              clear hO4 hG4 hV4 hV4' HG4' HRT HRT1 HN1
              obtain ⟨V5, HV5⟩ : ∃ x, Hid (w4.alloc (.cells #[.int .i64 x2] 3) = x) := ⟨_, ⟨rfl⟩⟩
              have HBV5 : Hid (Below w4.heap.size w4 V5) := ⟨by rw [← HV5.out]; exact (Below.refl _ w4).alloc (Nat.le_refl _) _⟩
              have HR5 : Hid (RdE i1 1 0 V5 (.slice (some ⟨w4.heap.size, 0, none⟩) 1 1) [x2]) := ⟨by rw [← HV5.out]; exact rde_one w4 (x2 : Int) rfl (i1_one x2).2 3⟩
              have HO5 : Hid (OwnE i1 1 3 V5 w.heap.size (.slice a4 k c4) (M.take k)) := ⟨HO4.out.far (Chg.ofBelow (X := []) HBV5.out) (by simp)⟩
              have HB5 : Hid (Below w.heap.size w V5) := ⟨HB4.out.trans (HBV5.out.mono HB4.out.size)⟩
              have hm1 : ((M.take k).length + [(x2 : Int)].length) * 8 ≤ 140737488355328 := by rw [Hlt.out]; simp; omega
              have hm2 : (M.take k).length + [(x2 : Int)].length ≤ maxLen := by rw [Hlt.out]; unfold maxLen; simp; omega
              have hm3 : w.heap.size ≤ V5.heap.size := HB5.out.size
              go_upto_region 12 with (first
                | (refine wp_sliceE eltI rfl (.tmp 67) rfl #[.int .i64 x2] rfl rfl (by decide) ?_; rw [HV5.out])
                | (rw [HV5.out]; refine wp_appE (f := i1) (d := 0) eltI rfl (.tmp 62) (.tmp 68) rfl rfl HO5.out rfl HR5.out hm1 hm2 hm3 ?_; intro v6 w6 hO6 hG6 hV6)
                | (refine wp_appE (f := i1) (d := 0) eltI rfl (.tmp 62) (.tmp 68) rfl rfl HO5.out rfl HR5.out hm1 hm2 hm3 ?_; intro v6 w6 hO6 hG6 hV6))
              obtain ⟨a6, c6, e6, _⟩ := (hO6.rd 0).shape
              subst e6
              have HG6 : Hid (Chg (ob (.slice a4 k c4)) V5 w6) := ⟨hG6⟩
              obtain ⟨n6, Hn6⟩ : ∃ x, Hid ((M.take k ++ [(x2 : Int)]).length = x) := ⟨_, ⟨rfl⟩⟩
              have Hn6k : Hid (n6 = k + 1) := ⟨by rw [← Hn6.out, List.length_append, Hlt.out]; rfl⟩
              rw [Hn6.out] at hO6 hV6 ⊢
              have HO6 := Hid.mk hO6
              have HB6 : Hid (Below w.heap.size w w6) := ⟨HB5.out.trans (HG6.out.below HB5.out.size (fun x hx => (HO5.out.lt x hx).1))⟩
              have HCD6 : Hid (Chg [] wi w6) := ⟨(HCD4.out.trans (Chg.ofBelow HBV5.out)).thenNew HG6.out (fun x hx => .inr (by rw [Hz1.out]; exact Hv4.out x hx))⟩
              have HRD : Hid (RdE i1 1 0 w6 (.slice (some ⟨g, k, none⟩) (m - k) (c3 - k)) (M.drop k)) := ⟨by
                have h0 := (HOi.out.far HCD6.out (by simp)).rd 0
                have h1 := h0.drop' Hm.out (j := k) (by omega)
                rw [Nat.zero_add, Nat.mul_one] at h1
                exact h1⟩
              have hn1 : ((M.take k ++ [(x2 : Int)]).length + (M.drop k).length) * 8 ≤ 140737488355328 := by rw [Hn6.out, Hn6k.out, List.length_drop, Hm.out]; omega
              have hn2 : (M.take k ++ [(x2 : Int)]).length + (M.drop k).length ≤ maxLen := by rw [Hn6.out, Hn6k.out, List.length_drop, Hm.out]; unfold maxLen; omega
              have hn3 : w.heap.size ≤ w6.heap.size := HB6.out.size
              have HLen : Hid ((M.take k ++ [(x2 : Int)] ++ M.drop k).length = m + 1) := ⟨by rw [List.length_append, Hn6.out, Hn6k.out, List.length_drop, Hm.out]; omega⟩
              clear hO6 hG6 hV6 c4' HV5 HV1
              have hck' : ¬ k = c3 := fun e => hck e.symm
              go_wp2_with (refine wp_appE (f := i1) (d := 0) eltI rfl (.tmp 70) (.tmp 73) rfl rfl HO6.out rfl HRD.out hn1 hn2 hn3 ?_; intro v7 w7 hO7 hG7 hV7)
              have HO7 := Hid.mk hO7
              have HB7 : Hid (Below w.heap.size w w7) := ⟨HB6.out.trans (Chg.below hG7 HB6.out.size (fun x hx => (HO6.out.lt x hx).1))⟩
              clear hO7 hG7 hV7
              go_roundg (n - (i + 1))
              case measure => omega
              case rel => exact ⟨i + 1, _, by omega, by omega, by go_num, HO7, ⟨rise_in HSr.out (fun y hy => Hbef.out y hy) (fun y hy => Haft.out y hy)⟩, ⟨fun y => by rw [mem_in, HTk.out, HMm.out]; exact or_comm⟩, ⟨by rw [HLen.out]; have := HMl.out; omega⟩, HB7, ⟨own_some HO7.out (by rw [HLen.out]; omega)⟩⟩
      · have HSn : Hid (slots bin (L.take (i + 1)) = slots bin (L.take i)) := ⟨by rw [HSs.out]; simp [hx]⟩
        have hxb : (x1 != bin) = true := by simp [hx]
        clear hx
        go_wp2_with fail
        go_roundg (n - (i + 1))
        case measure => omega
        case rel => exact ⟨i + 1, M, by omega, by omega, by go_num, HO, HSr, ⟨by rw [HSn.out]; exact HMm.out⟩, ⟨by rw [Hm.out]; have := HMl.out; omega⟩, HB, ⟨by simp [Value.ownBlock]⟩⟩
    · obtain rfl : n = i := by omega
      rw [HTe.out] at HMm
      go_wp2_with fail
      go_ret
      exact ⟨_, rfl, M, HO.out, HSr.out, HMm.out, by rw [Hm.out]; exact HMl.out, HB.out⟩
end
end Go.Proofs.Ytjcojpddjhjhbaa
