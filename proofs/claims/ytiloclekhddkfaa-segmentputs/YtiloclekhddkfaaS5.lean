/- slices.DeleteFunc over rows of ints with Champions' predicate. -/
import Derived.Test.YtiloclekhddkfaaS4
namespace Go.Proofs.Ytiloclekhddkfaa
open Go.RowKit Go.Lib Go.Shelf Go.Maps

/-- The places below m that stay. -/
def kept (x : Int) (M : List (List Int)) (m : Nat) : List Nat := (List.range m).filter (fun j => decide (x ∉ M.getD j []))
theorem kept_succ (x : Int) (M : List (List Int)) (m : Nat) : kept x M (m + 1) = kept x M m ++ (if x ∈ M.getD m [] then [] else [m]) := by
  unfold kept
  rw [List.range_succ, List.filter_append]
  by_cases h : x ∈ M.getD m []
  · rw [if_pos h]; simp only [List.filter, decide_eq_false (show ¬ x ∉ M.getD m [] from fun q => q h)]
  · rw [if_neg h]; simp only [List.filter, decide_eq_true h]
theorem kept_all (x : Int) (M : List (List Int)) (m : Nat) (h : ∀ j, j < m → x ∉ M.getD j []) : kept x M m = List.range m := by
  unfold kept
  rw [List.filter_eq_self]
  intro j hj
  exact decide_eq_true (h j (List.mem_range.1 hj))
theorem kept_lt (x : Int) (M : List (List Int)) (m : Nat) : ∀ j ∈ kept x M m, j < m := fun _ hj => List.mem_range.1 (List.mem_filter.1 hj).1
theorem kept_len (x : Int) (M : List (List Int)) (m : Nat) : (kept x M m).length ≤ m := by
  have := List.length_filter_le (fun j => decide (x ∉ M.getD j [])) (List.range m)
  rwa [List.length_range] at this
/-- The lists that don't hold x. -/
def without (x : Int) (M : List (List Int)) : List (List Int) := M.filter (fun l => decide (x ∉ l))
theorem as_range (M : List (List Int)) : M = (List.range M.length).map (fun j => M.getD j []) := by
  apply List.ext_getElem (by simp)
  intro i h1 h2
  simp [List.getD, List.getElem?_eq_getElem h1]
theorem without_eq (x : Int) (M : List (List Int)) : without x M = (kept x M M.length).map (fun j => M.getD j []) := by
  conv => lhs; unfold without; rw [as_range M]
  rw [List.filter_map]
  rfl
theorem without_self (x : Int) (M : List (List Int)) (h : ∀ i, i < M.length → x ∉ M.getD i []) : without x M = M := by
  rw [without_eq, kept_all x M _ h, ← as_range]
theorem EachI.pick {w : World} {S : Nat → Prop} {vs : List Value} {M : List (List Int)} (h : EachI w S vs M) (K : List Nat) (hK : ∀ j ∈ K, j < M.length) : EachI w S (K.map (fun j => vs.getD j (.slice none 0 0))) (K.map (fun j => M.getD j [])) := by
  refine ⟨by simp, fun i hi => ?_⟩
  rw [List.length_map] at hi
  have hm : K[i] ∈ K := List.getElem_mem hi
  obtain ⟨u, hu, hb⟩ := h.2 K[i] (hK _ hm)
  refine ⟨u, ?_, ?_⟩
  · rw [List.getElem?_map, List.getElem?_eq_getElem hi]
    simp [List.getD, hu]
  · have e : (K.map (fun j => M.getD j [])).getD i [] = M.getD K[i] [] := by
      simp only [List.getD]
      rw [List.getElem?_map, List.getElem?_eq_getElem hi]
      rfl
    rw [e]; exact hb
/-- A row whose first slices are those of vs at K, and from the place m on those of vs. -/
structure Del (w : World) (g n cap : Nat) (vs : List Value) (K : List Nat) (m : Nat) (cur : Array Value) : Prop where
  row : w.heap[g]? = some (.cells cur 39 (0, 0))
  size : cur.size = cap
  fst : ∀ j, j < K.length → cur[j]? = vs[K.getD j 0]?
  snd : ∀ j, m ≤ j → j < n → cur[j]? = vs[j]?
  all : ∀ j, j < n → ∃ a p q, cur[j]? = some (.slice a p q)
section
variable {w : World}
set_option maxHeartbeats 2000000 in
set_option maxRecDepth 100000 in
theorem delete_any {S : Nat → Prop} {base : Nat} {v : Value} {M : List (List Int)} (q : Nat) (x : Int) (h : OwnL w S base v M) (hq : w.cell? ⟨q, 0, none⟩ = some (.int .i64 x)) (hqv : q ∉ ob v) (hL : M.length ≤ 1000000) (hLl : ∀ i, i < M.length → (M.getD i []).length ≤ 1000000) :
    Calls Try.prog 30 #[v, .func (.func 31) #[] #[.pointer (some ⟨q, 0, none⟩)]] w fun e w' => ∃ v', e = .returned v' ∧ OwnL w' S base v' (without x M) ∧ Chg (ob v) w w' ∧ (∀ k ∈ ob v', k ∈ ob v) := by
  have HO := Hid.mk h
  have hA : ArgL w v M := ⟨by obtain ⟨a, c, e, h1, _⟩ := h.rows.shape; exact ⟨a, c, e, h1⟩, fun i hi => by obtain ⟨b, off, cap, y, m, z, e, _, h1, h2⟩ := h.rows.at hi; exact ⟨b, off, cap, y, m, z, e, h1, h2⟩⟩
  have t := indexf_any v M q x hA hq hL hLl
  have HLl := Hid.mk hLl
  have Hq := Hid.mk hq
  have eg := enters31
  obtain ⟨n, Hn⟩ : ∃ n, Hid (M.length = n) := ⟨_, ⟨rfl⟩⟩
  obtain ⟨av, cv, rfl, hcv⟩ := hA.shape
  have Hqv := Hid.mk hqv
  rw [Hn.out] at hL hcv t HO Hqv ⊢
  clear h hLl hq hA hqv
  go_enter Try.func30, Try.ntmps30
  go_upto_region 2 with (go_at_call 50; refine t.mono ?_; rintro e w' ⟨r, rfl, hr, rfl⟩)
  have HR := Hid.mk hr
  clear hr t
  rcases HR.out with ⟨rfl, hno⟩ | ⟨k, rfl, hk, hxk, hbefore⟩
  · have HW : Hid (without x M = M) := ⟨without_self x M (by rw [Hn.out]; exact hno)⟩
    clear hno HR
    go_wp2
    go_ret
    exact ⟨_, rfl, by rw [HW.out]; exact HO.out, Chg.refl _ _, fun k hk => hk⟩
  · obtain ⟨vs, hvs, hE⟩ := HO.out
    rw [Hn.out] at hvs
    rcases hvs.2 with ⟨_, h0⟩ | ⟨g, cap, cur0, e0, hb, hh, h1, h2, h3, h4⟩
    · omega
    simp at e0
    obtain ⟨rfl, rfl⟩ := e0
    have HE := Hid.mk hE
    have hvl : vs.length = n := by rw [hE.1, Hn.out]
    have Hvl := Hid.mk hvl
    have HC0 : Hid (w.heap[g]? = some (.cells cur0 39 (0, 0)) ∧ base ≤ g ∧ cv ≤ maxLen ∧ cur0.size = cv ∧ ∀ j, j < n → cur0[j]? = vs[j]?) := ⟨hh, hb, h2, by omega, fun j hj => by
      have e : (cur0.toList.take (n * 1))[j]? = vs[j]? := by rw [h4]
      rw [List.getElem?_take, if_pos (by omega)] at e
      simpa using e⟩
    have Hsl : Hid (∀ j, j < n → ∃ a p z, vs[j]? = some (.slice a p z) ∧ Io w S (.slice a p z) (M.getD j [])) := ⟨fun j hj => by
      obtain ⟨u, hu, hi⟩ := hE.2 j (by rw [Hn.out]; exact hj)
      obtain ⟨a, c, e, _⟩ := hi.bs.shape
      subst e
      exact ⟨a, _, c, hu, hi⟩⟩
    have Hty : Hid (Ty w 39 g) := ⟨own_ty hvs rfl⟩
    have hgq : g ≠ q := fun e => Hqv.out (by rw [← e]; simp [ob, Value.ownBlock])
    have HK1 : Hid (kept x M (k + 1) = List.range k) := ⟨by rw [kept_succ, if_pos hxk, List.append_nil, kept_all x M k hbefore]⟩
    have HD0 : Hid (Del w g n cv vs (kept x M (k + 1)) (k + 1) cur0) := ⟨HC0.out.1, HC0.out.2.2.2.1, fun j hj => by
      rw [HK1.out] at hj ⊢
      rw [List.length_range] at hj
      rw [HC0.out.2.2.2.2 j (by omega)]
      simp [List.getD, List.getElem?_range hj], fun j _ hj => HC0.out.2.2.2.2 j hj, fun j hj => by
      obtain ⟨a, p, z, e, _⟩ := Hsl.out j hj
      exact ⟨a, p, z, (HC0.out.2.2.2.2 j hj).trans e⟩⟩
    have HL1 : Hid ((kept x M (k + 1)).length = k) := ⟨by rw [HK1.out, List.length_range]⟩
    have hkm : ¬ ((k : Int) = -1) := by omega
    have hkz : wrap64 ((k : Int) + 1) = (k : Int) + 1 := IntWalk.wrap64_in _ ⟨by omega, by omega⟩
    clear hvs hE hh h1 h2 h3 h4 hvl hxk hbefore HR hb
    go_wp2_with fail
    go_loopg [5, 6, 7] n (fun gg s5 s6 _ wr => ∃ m cur, m ≤ n ∧ n - m ≤ gg ∧ s6 = .int .i64 (m : Int) ∧ s5 = .int .i64 ((kept x M m).length : Int) ∧ (kept x M m).length < m ∧ Hid (Del wr g n cv vs (kept x M m) m cur) ∧ Hid (Chg [g] w wr))
    case atStart => exact ⟨k + 1, cur0, by omega, by omega, by go_num, by rw [HL1.out], by rw [HL1.out]; omega, HD0, ⟨Chg.refl _ _⟩⟩
    case round =>
      clear HD0 HL1 HK1 hkz hkm
      obtain ⟨m, cur, hmn, hgg, rfl, rfl, hlen, HD, HG⟩ := hrel
      by_cases hlt : m < n
      · have hltz : (m : Int) < (n : Int) := by omega
        obtain ⟨a1, p1, z1, e1, io1⟩ := Hsl.out m hlt
        have hcm : wr.cell? ⟨g, m, none⟩ = some (.slice a1 p1 z1) := (cell_of_row _ _ _ _ _ _ HD.out.row).trans ((HD.out.snd m (Nat.le_refl _) hlt).trans e1)
        have hqc : wr.cell? ⟨q, 0, none⟩ = some (.int .i64 x) := (HG.out.cell (World.block_lt_of_cell? _ _ Hq.out) (by simp; exact fun e => hgq e.symm)).trans Hq.out
        have rd1 := (io1.far HG.out (fun k' hk' _ hm => by simp at hm; subst hm; exact hk'.ne Hty.out (by decide) rfl)).bs
        have t := has_any _ _ q x hqc rd1 (by have := HLl.out m (by rw [Hn.out]; exact hlt); omega)
        have HKs := Hid.mk (kept_succ x M m)
        clear rd1 io1 hqc
        by_cases hm : x ∈ M.getD m []
        · rw [if_pos hm, List.append_nil] at HKs
          rw [decide_eq_true hm] at t
          have HD2 : Hid (Del wr g n cv vs (kept x M (m + 1)) (m + 1) cur) := ⟨by rw [HKs.out]; exact ⟨HD.out.row, HD.out.size, HD.out.fst, fun j h1 h2 => HD.out.snd j (by omega) h2, HD.out.all⟩⟩
          clear hm
          go_wp2_with fail
          refine t.mono ?_
          rintro e w' ⟨rfl, rfl⟩
          go_wp2_with fail
          go_roundg (n - (m + 1))
          case measure => omega
          case rel => exact ⟨m + 1, cur, by omega, by omega, by go_num, by rw [HKs.out], by rw [HKs.out]; omega, HD2, HG⟩
        · rw [if_neg hm] at HKs
          rw [decide_eq_false hm] at t
          obtain ⟨np, Hnp⟩ : ∃ k, Hid ((kept x M m).length = k) := ⟨_, ⟨rfl⟩⟩
          have HLn : Hid ((kept x M (m + 1)).length = np + 1) := ⟨by rw [HKs.out, List.length_append, Hnp.out]; rfl⟩
          have HD2 : Hid (Del (wr.setCell ⟨g, (kept x M m).length, none⟩ (.slice a1 p1 z1)) g n cv vs (kept x M (m + 1)) (m + 1) (cur.setIfInBounds (kept x M m).length (.slice a1 p1 z1))) := ⟨by
            rw [HKs.out]
            refine ⟨heap_setCell_same wr g _ cur 39 _ HD.out.row, by simp [HD.out.size], fun j hj => ?_, fun j h1 h2 => ?_, fun j hj => ?_⟩
            · simp at hj
              by_cases e : (kept x M m).length = j
              · subst e
                rw [Array.getElem?_setIfInBounds_self_of_lt (by rw [HD.out.size]; omega)]
                simp [List.getD, e1]
              · rw [Array.getElem?_setIfInBounds_ne e, HD.out.fst j (by omega)]
                simp only [List.getD]
                rw [List.getElem?_append_left (by omega)]
            · rw [Array.getElem?_setIfInBounds_ne (by omega)]
              exact HD.out.snd j (by omega) h2
            · by_cases e : (kept x M m).length = j
              · subst e
                exact ⟨_, _, _, by rw [Array.getElem?_setIfInBounds_self_of_lt (by rw [HD.out.size]; omega)]⟩
              · rw [Array.getElem?_setIfInBounds_ne e]; exact HD.out.all j hj⟩
          obtain ⟨za, zp, zq, hz⟩ := HD.out.all (kept x M m).length (by omega)
          have hcz : wr.cell? ⟨g, (kept x M m).length, none⟩ = some (.slice za zp zq) := (cell_of_row _ _ _ _ _ _ HD.out.row).trans hz
          have hfz : wr.frozen? ⟨g, (kept x M m).length, none⟩ = false := frozen_of_row wr _ _ _ 39 HD.out.row
          rw [Hnp.out] at HD2 hcz hfz hlen ⊢
          have hpz : (np : Int) < (n : Int) := by omega
          have hpw : wrap64 ((np : Int) + 1) = (np : Int) + 1 := IntWalk.wrap64_in _ ⟨by omega, by omega⟩
          clear hm hz
          go_wp2_with fail
          refine t.mono ?_
          rintro e w' ⟨rfl, rfl⟩
          go_wp2_with fail
          go_roundg (n - (m + 1))
          case measure => omega
          case rel => exact ⟨m + 1, _, by omega, by omega, by go_num, by rw [HLn.out]; go_num, by rw [HLn.out]; omega, HD2, ⟨HG.out.setCell (.inl (by simp)) _⟩⟩
      · obtain rfl : n = m := by omega
        obtain ⟨np, Hnp⟩ : ∃ k, Hid ((kept x M n).length = k) := ⟨_, ⟨rfl⟩⟩
        rw [Hnp.out] at hlen ⊢
        have hcl : ∀ ty, (Builtin.clear_ #[37] ty #[.slice (some ⟨g, np, none⟩) (n - np) (cv - np)]).run Try.prog wr = .ok (.tuple #[]) (wr.setCells g np (List.replicate (n - np) (.slice none 0 0))) := fun ty => Lib.run_clear_slice wr 37 39 ty (.slice none 0 0) Try.underlying37 Try.zeroValue39 rfl rfl g np (n - np) (cv - np) (by omega) (fun j hj => by
          obtain ⟨za, zp, zq, hz⟩ := HD.out.all (np + j) (by omega)
          rw [cell_of_row _ _ _ _ _ _ HD.out.row, hz]
          rfl) (fun j _ => frozen_of_row wr _ _ _ 39 HD.out.row)
        have HR : Hid (OwnL (wr.setCells g np (List.replicate (n - np) (.slice none 0 0))) S base (.slice (some ⟨g, 0, none⟩) np cv) (without x M) ∧ Chg [g] w (wr.setCells g np (List.replicate (n - np) (.slice none 0 0)))) := ⟨by
          obtain ⟨cur', e1, e2, e3, e4⟩ := setCells_row g 39 (List.replicate (n - np) (.slice none 0 0)) np wr cur HD.out.row
          have hG := HG.out.trans e4
          refine ⟨?_, hG⟩
          rw [without_eq, Hn.out]
          refine ⟨_, ?_, (HE.out.pick (kept x M n) (fun j hj => by rw [Hn.out]; exact kept_lt x M n j hj)).far hG (fun k' hk' _ hm => by simp at hm; subst hm; exact hk'.ne Hty.out (by decide) rfl)⟩
          rw [List.length_map, Hnp.out]
          refine ⟨by rw [List.length_map, Hnp.out]; omega, .inr ⟨g, cv, cur', rfl, HC0.out.2.1, e1, by omega, HC0.out.2.2.1, by rw [e2, HD.out.size]; omega, ?_⟩⟩
          apply List.ext_getElem?
          intro j
          rw [List.getElem?_take, Nat.mul_one]
          by_cases hj : j < np
          · have hjK : j < (kept x M n).length := by rw [Hnp.out]; exact hj
            rw [if_pos hj, Array.getElem?_toList, e3 j hj, HD.out.fst j hjK, List.getElem?_map, List.getElem?_eq_getElem hjK]
            obtain ⟨za, zp, zq, hz, _⟩ := Hsl.out _ (kept_lt x M n _ (List.getElem_mem hjK))
            simp [List.getD, List.getElem?_eq_getElem hjK, hz]
          · rw [if_neg hj, List.getElem?_eq_none (by rw [List.length_map, Hnp.out]; omega)]⟩
        have hp1 : (np : Int) ≤ (n : Int) := by omega
        have hp2 : ¬ n < np := by omega
        have hp3 : ¬ cv = np := by omega
        have hp4 : ¬ cv < np := by omega
        go_wp2_with fail
        go_ret
        exact ⟨.slice (some ⟨g, 0, none⟩) np cv, rfl, HR.out.1, HR.out.2, fun k hk => hk⟩
end
end Go.Proofs.Ytiloclekhddkfaa
