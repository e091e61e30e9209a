/- The document's TakeRef. -/
import Derived.Test.YtiloclekhddkfaaS30
namespace Go.Proofs.Ytiloclekhddkfaa
open Go.RowKit Go.Lib

/-- What TakeRef answers. -/
def trT : Except Int (Rf × Int) → Value
  | .ok x => .tuple #[.agg (rc x.1).toArray, .int .i64 x.2, .int .i64 0]
  | .error c => .tuple #[.agg (rc rC).toArray, .int .i64 0, .int .i64 c]
theorem results43 (tmps : Array Value) (w : World) (q : Nat) (r : Rf) (j c : Int) (h4 : tmps.getD 4 undef = .pointer (some ⟨q, 0, none⟩)) (h5 : tmps.getD 5 undef = .int .i64 j) (h6 : tmps.getD 6 undef = .int .i64 c) (h : RefAt w q r) : (results Try.f43 tmps).run Try.prog w = .ok (.tuple #[.agg (rc r).toArray, .int .i64 j, .int .i64 c]) w := by
  have hl := run_loadR h.atR h.sm
  unfold results
  rw [Try.results43]
  simp only [Array.getD_eq_getD_getElem?] at h4 h5 h6
  simp [h4, h5, h6, asAddr, hl]
/-- The first k bytes of a sum, the others 0. -/
def part32 (s : List Int) (k : Nat) : List Int := s.take k ++ List.replicate (32 - k) 0
theorem part32_sm {s : List Int} (hs : Sm s) (k : Nat) (hk : k ≤ 32) : Sm (part32 s k) := by
  refine ⟨by unfold part32; rw [List.length_append, List.length_take, List.length_replicate, hs.len]; omega, fun x hx => ?_⟩
  rcases List.mem_append.1 hx with q | q
  · exact hs.byte x (List.mem_of_mem_take q)
  · have := List.eq_of_mem_replicate q; subst this; omega
theorem part32_full {s : List Int} (hs : Sm s) : part32 s 32 = s := by
  unfold part32
  rw [List.take_of_length_le (by rw [hs.len]; exact Nat.le_refl _)]
  simp
theorem part32_set {s : List Int} (hs : Sm s) (k : Nat) (hk : k < 32) (a b o : Int) : (rc ⟨part32 s k, a, b, o⟩).toArray.setIfInBounds k (.int .u8 (s.getD k 0)) = (rc ⟨part32 s (k + 1), a, b, o⟩).toArray := by
  have hkl : k < s.length := by rw [hs.len]; exact hk
  apply Array.ext'
  rw [Array.toList_setIfInBounds]
  show (rc ⟨part32 s k, a, b, o⟩).set k (.int .u8 (s.getD k 0)) = rc ⟨part32 s (k + 1), a, b, o⟩
  unfold rc
  simp only
  rw [List.set_append_left _ _ (by rw [List.length_map, (part32_sm hs k (by omega)).len]; exact hk), ← List.map_set]
  congr 2
  unfold part32
  rw [List.set_append_right _ _ (by rw [List.length_take]; omega), List.length_take, Nat.min_eq_left (by omega), Nat.sub_self, show 32 - k = (32 - (k + 1)) + 1 by omega, List.replicate_succ, List.set_cons_zero, List.take_succ_eq_append_getElem hkl]
  simp [List.getD, List.getElem?_eq_getElem hkl, -List.take_append_getElem]
/-- How far the three numbers have come. -/
def Prog3 (bs : List Int) (i : Int) (k : Nat) (a b c at' : Int) : Prop :=
  (k = 0 ∧ at' = i ∧ a = 0 ∧ b = 0 ∧ c = 0) ∨ (k = 1 ∧ nm bs i = .ok (a, at') ∧ b = 0 ∧ c = 0) ∨ (k = 2 ∧ ∃ i1, nm bs i = .ok (a, i1) ∧ nm bs i1 = .ok (b, at') ∧ c = 0) ∨ (k = 3 ∧ ∃ i1 i2, nm bs i = .ok (a, i1) ∧ nm bs i1 = .ok (b, i2) ∧ nm bs i2 = .ok (c, at'))
theorem Prog3.no {bs : List Int} {ii : Nat} {k : Nat} {a b c at' e : Int} (hk : k < 3) (hge : ii + 32 ≤ bs.length) (h : Prog3 bs ((ii : Int) + 32) k a b c at') (he : nm bs at' = .error e) : tkRef bs (ii : Int) = .error e := by
  unfold tkRef
  rw [if_neg (by omega)]
  rcases h with ⟨_, q, _⟩ | ⟨_, q, _⟩ | ⟨_, i1, q1, q2, _⟩ | ⟨q, _⟩
  · subst q; simp only [he]
  · simp only [q, he]
  · simp only [q1, q2, he]
  · omega
theorem Prog3.yes {bs : List Int} {ii : Nat} {a b c at' : Int} (hge : ii + 32 ≤ bs.length) (h : Prog3 bs ((ii : Int) + 32) 3 a b c at') : tkRef bs (ii : Int) = if rt ⟨sumA bs ii, a, b, c⟩ then .ok (⟨sumA bs ii, a, b, c⟩, at') else .error 2 := by
  unfold tkRef
  rw [if_neg (by omega)]
  rcases h with ⟨q, _⟩ | ⟨q, _⟩ | ⟨q, _⟩ | ⟨_, i1, i2, q1, q2, q3⟩
  · omega
  · omega
  · omega
  · simp only [q1, q2, q3, Int.toNat_natCast]
theorem rc_sets {s : List Int} (hs : Sm s) (a b o a' b' o' : Int) : (((rc ⟨s, a', b', o'⟩).toArray.setIfInBounds 32 (.int .i64 a)).setIfInBounds 33 (.int .i64 b)).setIfInBounds 34 (.int .i64 o) = (rc ⟨s, a, b, o⟩).toArray := by
  have hl : (s.map (Value.int .u8)).length = 32 := by rw [List.length_map, hs.len]
  apply Array.ext'
  simp only [Array.toList_setIfInBounds]
  unfold rc
  simp only
  rw [List.set_append_right _ _ (by omega), List.set_append_right _ _ (by omega), List.set_append_right _ _ (by omega), hl]
  rfl
theorem RefAt.set3 {w : World} {q : Nat} {s : List Int} {a' b' o' : Int} (h : RefAt w q ⟨s, a', b', o'⟩) (a b o : Int) : RefAt (((w.setCell ⟨q, 32, none⟩ (.int .i64 a)).setCell ⟨q, 33, none⟩ (.int .i64 b)).setCell ⟨q, 34, none⟩ (.int .i64 o)) q ⟨s, a, b, o⟩ := by
  refine ⟨?_, h.sm⟩
  rw [← rc_sets h.sm a b o a' b' o']
  exact heap_setCell_same _ q 34 _ 28 _ (heap_setCell_same _ q 33 _ 28 _ (heap_setCell_same _ q 32 _ 28 _ h.row))
section
variable {w : World}
set_option maxHeartbeats 4000000 in
set_option maxRecDepth 100000 in
theorem takeRef_any (v : Value) (bs : List Int) (ii : Nat) (hv : Oct.Bs w v bs) (hby : ∀ x ∈ bs, 0 ≤ x ∧ x < 256) (hi : ii ≤ bs.length) (hl : bs.length ≤ 1000000000000000) : Calls Try.prog 43 #[v, .int .i64 (ii : Int)] w fun e w' => e = .returned (trT (tkRef bs (ii : Int))) ∧ Below w.heap.size w w' := by
  have HV := Hid.mk hv
  obtain ⟨X, HX⟩ : ∃ X, Hid (tkRef bs (ii : Int) = X) := ⟨_, ⟨rfl⟩⟩
  rw [HX.out]
  have hv0 := hv
  obtain ⟨av, cv, rfl, hlc, _⟩ := hv
  obtain ⟨nb, Hnb⟩ : ∃ n, Hid (bs.length = n) := ⟨_, ⟨rfl⟩⟩
  rw [Hnb.out] at HV hi hl hlc ⊢
  obtain ⟨m, Hm⟩ : ∃ m, Hid (nb - ii = m) := ⟨_, ⟨rfl⟩⟩
  have hsub : (nb : Int) - (ii : Int) = (m : Int) := by rw [← Hm.out]; omega
  have hmw : IntKind.i64.wrap (m : Int) = (m : Int) := IntWalk.i64_in _ ⟨by omega, by rw [← Hm.out]; omega⟩
  have Hz : Hid (∀ A B : Array Value, ((w.alloc (.cells A 28)).alloc (.cells B 28)).heap[w.heap.size + 1]? = some (.cells B 28 (0, 0))) := ⟨fun A B => by have := heap_alloc_new (w.alloc (.cells A 28)) (.cells B 28 (0, 0)); simpa using this⟩
  clear hv0
  go_enter Try.func43, Try.ntmps43
  go_upto_region 1 with fail
  go_upto_region 2 with (refine wp_storeR rfl (.tmp 7) (.tmp 14) rfl (w.heap.size + 1) rC sm0 rfl rfl _ (Hz.out _ _) rfl ?_; intro w2 hA2 hG2)
  have HA7 := Hid.mk hA2
  have HB2 : Hid (Below w.heap.size w w2) := ⟨((Chg.ofBelow (X := []) (((Below.refl _ w).alloc (Nat.le_refl _) _).alloc (by simp) _)).thenNew hG2 (by simp)).below (Nat.le_refl _) (by simp)⟩
  have HA4 : Hid (RefAt w2 w.heap.size rC) := ⟨⟨by
    rw [hG2.block w.heap.size (by simp; omega) (by simp), Below.heap_alloc _ _ _ (by simp)]
    exact heap_alloc_new w _, sm0⟩⟩
  clear hA2 hG2
  by_cases hsh : (m : Int) < 32
  · have e : X = .error 3 := by rw [← HX.out]; unfold tkRef; rw [if_pos (by have := Hm.out; have := Hnb.out; omega)]
    subst e
    have Hi : Hid ((Try.prog.info? 28).map (·.size) = some (rc rC).length) := ⟨by rw [rc_len rC sm0]; exact info28⟩
    have HcR := Hid.mk HA7.out.atR
    go_upto_region 3 with fail
    go_wp2_with (first
      | (refine wp_loadA rfl 28 (.tmp 7) rfl (w.heap.size + 1) 0 rfl (rc rC) _ HcR.out Try.underlying28 rfl Hi.out ?_)
      | (refine wp_storeR rfl (.tmp 4) (.tmp 20) rfl w.heap.size rC sm0 rfl rfl _ HA4.out.row rfl ?_; intro w3 hA3 hG3))
    refine bodyPost_ret (results43 _ w3 w.heap.size rC 0 3 (by kernel_rfl) (by kernel_rfl) (by kernel_rfl) hA3) rfl ?_
    exact ⟨rfl, HB2.out.trans (hG3.below HB2.out.size (by simp))⟩
  · have hge : ii + 32 ≤ nb := by have := Hm.out; omega
    have Hgb : Hid (ii + 32 ≤ bs.length) := ⟨by rw [Hnb.out]; exact hge⟩
    have HSm : Hid (Sm (sumA bs ii)) := ⟨⟨(sumA_ok hby Hgb.out).len, (sumA_ok hby Hgb.out).byte⟩⟩
    rcases HV.out.cases with ⟨e, _⟩ | ⟨_, b, off, cap, e, _, _, hbl, hcell⟩
    · exfalso; rw [e] at Hnb; have := Hnb.out; simp at this; omega
    rw [Hnb.out] at e hcell
    simp at e
    obtain ⟨rfl, rfl⟩ := e
    have Hcell := Hid.mk hcell
    obtain ⟨q, Hq⟩ : ∃ q, Hid (w.heap.size + 1 = q) := ⟨_, ⟨rfl⟩⟩
    rw [Hq.out] at HA7 ⊢
    clear hcell hsub hmw
    go_wp2_with fail
    go_loopg [8] 32 (fun gg s8 wr => ∃ k : Nat, k ≤ 32 ∧ 32 - k ≤ gg ∧ s8 = .int .i64 (k : Int) ∧ Hid (RefAt wr q ⟨part32 (sumA bs ii) k, 0, 0, 0⟩) ∧ Hid (RefAt wr w.heap.size rC) ∧ Hid (Below w.heap.size w wr))
    case atStart => exact ⟨0, Nat.zero_le _, by omega, rfl, ⟨HA7.out⟩, HA4, HB2⟩
    case round =>
      clear HA7 HA4 HB2
      obtain ⟨k, hk, hgg, rfl, HA7, HA4, HB⟩ := hrel
      by_cases hlt : k < 32
      · have hltz : (k : Int) < 32 := by omega
        obtain ⟨x, Hx⟩ : ∃ x, Hid (ii + k = x) := ⟨_, ⟨rfl⟩⟩
        have hbk : (ii : Int) + (k : Int) = (x : Int) := by rw [← Hx.out]; omega
        have hbw : IntKind.i64.wrap (x : Int) = (x : Int) := IntWalk.i64_in _ ⟨by omega, by rw [← Hx.out]; omega⟩
        have hin : x < nb := by rw [← Hx.out]; omega
        have hinz : (x : Int) < (nb : Int) := by omega
        have c0 := Hcell.out x hin
        have cB : wr.cell? ⟨b, off + x, none⟩ = some (.int .u8 (bs.getD x 0)) := (HB.out.cell (World.block_lt_of_cell? _ _ c0)).trans c0
        rw [← Hx.out, ← sumA_get hlt, Hx.out] at cB
        have cq : wr.cell? ⟨q, k, none⟩ = some (.int .u8 ((part32 (sumA bs ii) k).getD k 0)) := (HA7.out.cell k).trans (rc_sum _ HA7.out.sm k hlt)
        have fq : wr.frozen? ⟨q, k, none⟩ = false := frozen_of_row wr q k _ 28 HA7.out.row
        have HN : Hid (RefAt (wr.setCell ⟨q, k, none⟩ (.int .u8 ((sumA bs ii).getD k 0))) q ⟨part32 (sumA bs ii) (k + 1), 0, 0, 0⟩) := ⟨⟨by rw [← part32_set HSm.out k hlt]; exact heap_setCell_same wr q k _ 28 _ HA7.out.row, part32_sm HSm.out (k + 1) (by omega)⟩⟩
        have HN4 : Hid (RefAt (wr.setCell ⟨q, k, none⟩ (.int .u8 ((sumA bs ii).getD k 0))) w.heap.size rC) := ⟨⟨by rw [heap_setCell_other wr ⟨q, k, none⟩ w.heap.size _ (by simp; rw [← Hq.out]; omega)]; exact HA4.out.row, sm0⟩⟩
        have HBN : Hid (Below w.heap.size w (wr.setCell ⟨q, k, none⟩ (.int .u8 ((sumA bs ii).getD k 0)))) := ⟨((Chg.ofBelow (X := []) HB.out).setCell (.inr (by simp; rw [← Hq.out]; omega)) _).below (Nat.le_refl _) (by simp)⟩
        generalize (sumA bs ii).getD k 0 = y at cB HN HN4 HBN
        generalize (part32 (sumA bs ii) k).getD k 0 = y0 at cq
        clear c0
        go_wp2_with fail
        go_roundg (32 - (k + 1))
        case measure => omega
        case rel => exact ⟨k + 1, by omega, by omega, by go_num, HN, HN4, HBN⟩
      · obtain rfl : k = 32 := by omega
        rw [part32_full HSm.out] at HA7
        have h32 : IntKind.i64.wrap ((ii : Int) + 32) = (ii : Int) + 32 := IntWalk.i64_in _ ⟨by omega, by omega⟩
        have HVr : Hid (Oct.Bs wr (.slice (some ⟨b, off, none⟩) nb cv) bs) := ⟨HV.out.below HB.out⟩
        obtain ⟨W, eW⟩ : ∃ x, x = wr := ⟨_, rfl⟩
        subst eW
        obtain ⟨p, Hp⟩ : ∃ p, Hid (W.heap.size = p) := ⟨_, ⟨rfl⟩⟩
        go_upto_region 10 with fail
        obtain ⟨w5, Hw5⟩ : ∃ w5, Hid (W.alloc (.cells #[.int .i64 0, .int .i64 0, .int .i64 0] 82) = w5) := ⟨_, ⟨rfl⟩⟩
        have HB5 : Hid (Below W.heap.size W w5) := ⟨by rw [← Hw5.out]; exact (Below.refl _ W).alloc (Nat.le_refl _) _⟩
        have Hr5 : Hid (w5.heap[p]? = some (.cells #[.int .i64 0, .int .i64 0, .int .i64 0] 82 (0, 0))) := ⟨by rw [← Hw5.out, ← Hp.out]; exact heap_alloc_new W _⟩
        rw [Hw5.out, Hp.out]
        have Hpq : Hid (q < p ∧ w.heap.size < p) := ⟨by rw [← Hp.out]; exact ⟨HA7.out.lt, HA4.out.lt⟩⟩
        go_wp2_with fail
        go_loopg [1, 10, 11, 12, 13] 3 (fun gg s1 s10 _ _ _ wr => ∃ (k : Nat) (a b c at' : Int), k ≤ 3 ∧ 3 - k ≤ gg ∧ s10 = .int .i64 (k : Int) ∧ s1 = .int .i64 at' ∧ Hid (wr.heap[p]? = some (.cells #[.int .i64 a, .int .i64 b, .int .i64 c] 82 (0, 0))) ∧ Hid (Prog3 bs ((ii : Int) + 32) k a b c at') ∧ Hid (Chg [p] w5 wr))
        case atStart => exact ⟨0, 0, 0, 0, (ii : Int) + 32, Nat.zero_le _, by omega, rfl, rfl, Hr5, ⟨.inl ⟨rfl, rfl, rfl, rfl, rfl⟩⟩, ⟨Chg.refl _ _⟩⟩
        case round =>
          obtain ⟨k, na, nb', nc, at', hk3, hgg, rfl, rfl, HR, HPg, HG⟩ := hrel
          have HB5w : Hid (Below w.heap.size w wr) := ⟨(HB.out.trans (HB5.out.mono HB.out.size)).trans (HG.out.below (Nat.le_trans HB.out.size HB5.out.size) (fun x hx => by simp at hx; have := Hpq.out; omega))⟩
          have HA7r : Hid (RefAt wr q ⟨sumA bs ii, 0, 0, 0⟩) := ⟨(HA7.out.far (Chg.ofBelow (X := []) HB5.out) (by simp)).far HG.out (by simp; have := Hpq.out; omega)⟩
          have HA4r : Hid (RefAt wr w.heap.size rC) := ⟨(HA4.out.far (Chg.ofBelow (X := []) HB5.out) (by simp)).far HG.out (by simp; have := Hpq.out; omega)⟩
          have HVq : Hid (Oct.Bs wr (.slice (some ⟨b, off, none⟩) nb cv) bs) := ⟨HV.out.below HB5w.out⟩
          by_cases hlt : k < 3
          · have hltz : (k : Int) < 3 := by omega
            have t1 := Oct.rtakeNum_any _ bs at' wr HVq.out hby
            cases hnm : nm bs at' with
            | error e =>
              obtain ⟨zn, zj, hz, hz0⟩ := nm_no hnm
              rw [hz] at t1
              simp only at t1
              have eX : X = .error e := by rw [← HX.out]; exact HPg.out.no hlt Hgb.out hnm
              subst eX
              go_upto_region 15 with (go_at_call 42; refine t1.mono ?_; rintro e2 wx ⟨rfl, ex⟩; subst ex)
              go_wp2_with (refine wp_storeR rfl (.tmp 4) (.tmp 50) rfl w.heap.size rC sm0 rfl rfl _ HA4r.out.row rfl ?_; intro w6 hA6 hG6)
              refine bodyPost_ret (results43 _ w6 w.heap.size rC 0 e (by kernel_rfl) (by kernel_rfl) (by kernel_rfl) hA6) rfl ?_
              exact ⟨rfl, HB5w.out.trans (hG6.below HB5w.out.size (by simp))⟩
            | ok x =>
              obtain ⟨zn, zj⟩ := x
              have hz := (nm_ok hby hnm).1
              rw [hz] at t1
              simp only at t1
              have cp : ∃ z0, wr.cell? ⟨p, k, none⟩ = some (.int .i64 z0) := by
                match k, hlt with
                | 0, _ => exact ⟨na, by rw [cell_of_row _ _ _ _ _ _ HR.out]; rfl⟩
                | 1, _ => exact ⟨nb', by rw [cell_of_row _ _ _ _ _ _ HR.out]; rfl⟩
                | 2, _ => exact ⟨nc, by rw [cell_of_row _ _ _ _ _ _ HR.out]; rfl⟩
              obtain ⟨z0, cp⟩ := cp
              have fp : wr.frozen? ⟨p, k, none⟩ = false := frozen_of_row wr p k _ 82 HR.out
              have HRn : Hid ((wr.setCell ⟨p, k, none⟩ (.int .i64 zn)).heap[p]? = some (.cells (#[Value.int .i64 na, .int .i64 nb', .int .i64 nc].setIfInBounds k (.int .i64 zn)) 82 (0, 0))) := ⟨heap_setCell_same wr p k _ 82 _ HR.out⟩
              have HGn : Hid (Chg [p] w5 (wr.setCell ⟨p, k, none⟩ (.int .i64 zn))) := ⟨HG.out.setCell (.inl (by simp)) _⟩
              have HPn : Hid (∃ a b c, #[Value.int .i64 na, .int .i64 nb', .int .i64 nc].setIfInBounds k (.int .i64 zn) = #[.int .i64 a, .int .i64 b, .int .i64 c] ∧ Prog3 bs ((ii : Int) + 32) (k + 1) a b c zj) := ⟨by
                rcases HPg.out with ⟨rfl, q1, rfl, rfl, rfl⟩ | ⟨rfl, q1, rfl, rfl⟩ | ⟨rfl, i1, q1, q2, rfl⟩ | ⟨q, _⟩
                · exact ⟨zn, 0, 0, rfl, .inr (.inl ⟨rfl, by rw [← q1]; exact hnm, rfl, rfl⟩)⟩
                · exact ⟨na, zn, 0, rfl, .inr (.inr (.inl ⟨rfl, at', q1, hnm, rfl⟩))⟩
                · exact ⟨na, nb', zn, rfl, .inr (.inr (.inr ⟨rfl, i1, at', q1, q2, hnm⟩))⟩
                · omega⟩
              clear hnm hz
              go_upto_region 14 with (go_at_call 42; refine t1.mono ?_; rintro e2 wx ⟨rfl, ex⟩; subst ex)
              go_wp2_with fail
              go_roundg (3 - (k + 1))
              case measure => omega
              case rel =>
                obtain ⟨a, b2, c, e3, hP⟩ := HPn.out
                exact ⟨k + 1, a, b2, c, zj, by omega, by omega, by go_num, rfl, ⟨by rw [← e3]; exact HRn.out⟩, ⟨hP⟩, HGn⟩
          · obtain rfl : k = 3 := by omega
            have HY := Hid.mk (HPg.out.yes Hgb.out)
            rw [HX.out] at HY
            have c0 : wr.cell? ⟨p, 0, none⟩ = some (.int .i64 na) := by rw [cell_of_row _ _ _ _ _ _ HR.out]; rfl
            have c1 : wr.cell? ⟨p, 1, none⟩ = some (.int .i64 nb') := by rw [cell_of_row _ _ _ _ _ _ HR.out]; rfl
            have c2 : wr.cell? ⟨p, 2, none⟩ = some (.int .i64 nc) := by rw [cell_of_row _ _ _ _ _ _ HR.out]; rfl
            obtain ⟨s, Hse⟩ : ∃ s, Hid (sumA bs ii = s) := ⟨_, ⟨rfl⟩⟩
            rw [Hse.out] at HY HA7r HSm
            have g0 := (HA7r.out.cells).1
            have g1 := (HA7r.out.cells).2.1
            have g2 := (HA7r.out.cells).2.2
            have f0 : wr.frozen? ⟨q, 32, none⟩ = false := frozen_of_row wr q 32 _ 28 HA7r.out.row
            have f1 : wr.frozen? ⟨q, 33, none⟩ = false := frozen_of_row wr q 33 _ 28 HA7r.out.row
            have f2 : wr.frozen? ⟨q, 34, none⟩ = false := frozen_of_row wr q 34 _ 28 HA7r.out.row
            have hqp : q ≠ p := by have := Hpq.out; omega
            have hqpb : p ≠ q := fun e => hqp e.symm
            go_upto_region 21 with fail
            obtain ⟨w6, Hw6⟩ : ∃ w6, Hid (((wr.setCell ⟨q, 32, none⟩ (.int .i64 na)).setCell ⟨q, 33, none⟩ (.int .i64 nb')).setCell ⟨q, 34, none⟩ (.int .i64 nc) = w6) := ⟨_, ⟨rfl⟩⟩
            have HA6 : Hid (RefAt w6 q ⟨s, na, nb', nc⟩) := ⟨by rw [← Hw6.out]; exact HA7r.out.set3 na nb' nc⟩
            have HG6 : Hid (Chg [q] wr w6) := ⟨by rw [← Hw6.out]; exact (((Chg.refl [q] wr).setCell (.inl (by simp)) _).setCell (.inl (by simp)) _).setCell (.inl (by simp)) _⟩
            have Hqw : Hid (w.heap.size < q) := ⟨by rw [← Hq.out]; omega⟩
            have HA46 : Hid (RefAt w6 w.heap.size rC) := ⟨HA4r.out.far HG6.out (by simp; have := Hqw.out; omega)⟩
            have HB6 : Hid (Below w.heap.size w w6) := ⟨HB5w.out.trans (HG6.out.below HB5w.out.size (by simp; have := Hqw.out; omega))⟩
            rw [Hw6.out]
            have Hi : Hid ((Try.prog.info? 28).map (·.size) = some (rc ⟨s, na, nb', nc⟩).length) := ⟨by rw [rc_len ⟨s, na, nb', nc⟩ HSm.out]; exact info28⟩
            have HcR := Hid.mk HA6.out.atR
            have t6 := rright_any (w := w6) ⟨s, na, nb', nc⟩ HSm.out
            clear c0 c1 c2 g0 g1 g2 f0 f1 f2
            cases hrt : rt ⟨s, na, nb', nc⟩ with
            | false =>
              rw [hrt] at t6
              have eX : X = .error 2 := by rw [HY.out, hrt]; rfl
              subst eX
              go_upto_region 22 with (first
                | (refine wp_loadA rfl 28 (.tmp 7) rfl q 0 rfl (rc ⟨s, na, nb', nc⟩) _ HcR.out Try.underlying28 rfl Hi.out ?_)
                | (go_at_call 38; refine t6.mono ?_; rintro e2 w7 ⟨rfl, hb7⟩))
              have HA47 : Hid (RefAt w7 w.heap.size rC) := ⟨HA46.out.far (Chg.ofBelow (X := []) hb7) (by simp)⟩
              have HB7 : Hid (Below w.heap.size w w7) := ⟨HB6.out.trans (hb7.mono HB6.out.size)⟩
              go_wp2_with (refine wp_storeR rfl (.tmp 4) (.tmp 68) rfl w.heap.size rC sm0 rfl rfl _ HA47.out.row rfl ?_; intro w8 hA8 hG8)
              refine bodyPost_ret (results43 _ w8 w.heap.size rC 0 2 (by kernel_rfl) (by kernel_rfl) (by kernel_rfl) hA8) rfl ?_
              exact ⟨rfl, HB7.out.trans (hG8.below HB7.out.size (by simp))⟩
            | true =>
              rw [hrt] at t6
              have eX : X = .ok (⟨s, na, nb', nc⟩, at') := by rw [HY.out, hrt]; rfl
              subst eX
              go_upto_region 23 with (first
                | (refine wp_loadA rfl 28 (.tmp 7) rfl q 0 rfl (rc ⟨s, na, nb', nc⟩) _ HcR.out Try.underlying28 rfl Hi.out ?_)
                | (go_at_call 38; refine t6.mono ?_; rintro e2 w7 ⟨rfl, hb7⟩))
              have HA47 : Hid (RefAt w7 w.heap.size rC) := ⟨HA46.out.far (Chg.ofBelow (X := []) hb7) (by simp)⟩
              have HA67 : Hid (RefAt w7 q ⟨s, na, nb', nc⟩) := ⟨HA6.out.far (Chg.ofBelow (X := []) hb7) (by simp)⟩
              have HcR7 := Hid.mk HA67.out.atR
              have HB7 : Hid (Below w.heap.size w w7) := ⟨HB6.out.trans (hb7.mono HB6.out.size)⟩
              go_wp2_with (first
                | (refine wp_loadA rfl 28 (.tmp 7) rfl q 0 rfl (rc ⟨s, na, nb', nc⟩) _ HcR7.out Try.underlying28 rfl Hi.out ?_)
                | (refine wp_storeR rfl (.tmp 4) (.tmp 69) rfl w.heap.size ⟨s, na, nb', nc⟩ HSm.out rfl rfl _ HA47.out.row rfl ?_; intro w8 hA8 hG8))
              refine bodyPost_ret (results43 _ w8 w.heap.size ⟨s, na, nb', nc⟩ at' 0 (by kernel_rfl) (by kernel_rfl) (by kernel_rfl) hA8) rfl ?_
              exact ⟨rfl, HB7.out.trans (hG8.below HB7.out.size (by simp))⟩
end
end Go.Proofs.Ytiloclekhddkfaa
