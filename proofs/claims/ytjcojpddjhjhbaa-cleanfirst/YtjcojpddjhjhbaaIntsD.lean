/- slices.Compact at ints, owned and sorted: each number once. -/
import Derived.Test.YtjcojpddjhjhbaaIntsC
namespace Go.Proofs.Ytjcojpddjhjhbaa
open Go.RowKit Go.Sort Go.Shelf

/-- P has just the first m numbers of l, rising, and ends with the last one of them. -/
structure Once (l P : List Int) (m : Nat) : Prop where
  up : P.Pairwise (· < ·)
  mem : ∀ x, x ∈ P ↔ x ∈ l.take m
  last : P.getD (P.length - 1) 0 = l.getD (m - 1) 0
  le : P.length ≤ m
  pos : 0 < P.length
theorem getD_mem {l : List Int} {i : Nat} (h : i < l.length) : l.getD i 0 ∈ l := by simp only [List.getD, List.getElem?_eq_getElem h, Option.getD_some]; exact List.getElem_mem h
theorem sorted_le {l : List Int} (h : l.Pairwise (· ≤ ·)) {i j : Nat} (hij : i ≤ j) (hj : j < l.length) : l.getD i 0 ≤ l.getD j 0 := by
  simp only [List.getD, List.getElem?_eq_getElem hj, List.getElem?_eq_getElem (show i < l.length by omega), Option.getD_some]
  rcases Nat.lt_or_eq_of_le hij with q | q
  · exact List.pairwise_iff_getElem.1 h i j (by omega) hj q
  · subst q; exact Int.le_refl _
theorem once_one {l : List Int} (h : 0 < l.length) : Once l (l.take 1) 1 := by
  match l, h with
  | x :: r, _ => exact ⟨by simp, by simp, by simp [List.getD], by simp, by simp⟩
theorem mem_take_succ {l : List Int} {m : Nat} (h : m < l.length) (x : Int) : x ∈ l.take (m + 1) ↔ x ∈ l.take m ∨ x = l.getD m 0 := by
  rw [List.take_add_one, List.getElem?_eq_getElem h, List.mem_append]
  simp only [Option.toList_some, List.mem_singleton, List.getD, List.getElem?_eq_getElem h, Option.getD_some]
theorem Once.same {l P : List Int} {m : Nat} (h : Once l P m) (hm : m < l.length) (he : l.getD m 0 = l.getD (m - 1) 0) : Once l P (m + 1) := by
  refine ⟨h.up, fun x => ?_, by rw [h.last, Nat.add_sub_cancel, he], by have := h.le; omega, h.pos⟩
  rw [mem_take_succ hm, h.mem]
  constructor
  · exact .inl
  · rintro (q | q)
    · exact q
    · rw [q, he, ← h.last, ← h.mem]
      exact getD_mem (by have := h.pos; omega)
theorem Once.next {l P : List Int} {m : Nat} (h : Once l P m) (hs : l.Pairwise (· ≤ ·)) (hm : m < l.length) (hm0 : 0 < m) (he : ¬ l.getD m 0 = l.getD (m - 1) 0) : Once l (P ++ [l.getD m 0]) (m + 1) := by
  have hlt : l.getD (m - 1) 0 < l.getD m 0 := by have := sorted_le hs (i := m - 1) (j := m) (by omega) hm; omega
  refine ⟨?_, fun x => ?_, by simp, by simp; exact h.le, by simp⟩
  · rw [List.pairwise_append]
    refine ⟨h.up, by simp, fun a ha b hb => ?_⟩
    simp at hb
    subst hb
    obtain ⟨i, hi, rfl⟩ := List.mem_iff_getElem.1 ((h.mem a).1 ha)
    rw [List.length_take] at hi
    have h1 := sorted_le hs (i := i) (j := m - 1) (by omega) (by omega)
    simp only [List.getD, List.getElem?_eq_getElem (show i < l.length by omega), Option.getD_some] at h1
    rw [List.getElem_take]
    simp only [List.getD] at h1 hlt ⊢
    omega
  · rw [mem_take_succ hm, List.mem_append, h.mem]
    simp
theorem once_take {l : List Int} {k : Nat} (h : Once l (l.take k) k) (hs : l.Pairwise (· ≤ ·)) (hk : k < l.length) (hk0 : 0 < k) (he : ¬ l.getD k 0 = l.getD (k - 1) 0) : Once l (l.take (k + 1)) (k + 1) := by
  have := h.next hs hk hk0 he
  have e : l.take (k + 1) = l.take k ++ [l.getD k 0] := by
    rw [List.take_add_one, List.getElem?_eq_getElem hk]
    simp only [Option.toList_some, List.getD, List.getElem?_eq_getElem hk, Option.getD_some]
  rw [e]; exact this
/-- A row whose first numbers are P, and from the place m - 1 on those of l. -/
structure Cmp (w : World) (g n cap : Nat) (l P : List Int) (m : Nat) (cur : Array Value) : Prop where
  row : w.heap[g]? = some (.cells cur 3 (0, 0))
  size : cur.size = cap
  fst : ∀ j, j < P.length → cur[j]? = some (.int .i64 (P.getD j 0))
  snd : ∀ j, m - 1 ≤ j → j < n → cur[j]? = some (.int .i64 (l.getD j 0))
  all : ∀ j, j < n → ∃ z, cur[j]? = some (.int .i64 z)
theorem setCells_row (g : Nat) (e : TypeId) : ∀ (vs : List Value) (o : Nat) (w : World) (cur : Array Value), w.heap[g]? = some (.cells cur e (0, 0)) → ∃ cur', (w.setCells g o vs).heap[g]? = some (.cells cur' e (0, 0)) ∧ cur'.size = cur.size ∧ (∀ j, j < o → cur'[j]? = cur[j]?) ∧ Chg [g] w (w.setCells g o vs)
  | [], o, w, cur, h => ⟨cur, h, rfl, fun _ _ => rfl, Chg.refl _ _⟩
  | v :: vs, o, w, cur, h => by
    obtain ⟨cur', h1, h2, h3, h4⟩ := setCells_row g e vs (o + 1) (w.setCell ⟨g, o, none⟩ v) _ (heap_setCell_same w g o cur e v h)
    refine ⟨cur', h1, by rw [h2]; simp, fun j hj => ?_, ((Chg.refl [g] w).setCell (.inl (by simp)) v).trans h4⟩
    rw [h3 j (by omega), Array.getElem?_setIfInBounds_ne (by omega)]
section
variable {w : World}
set_option maxHeartbeats 2000000 in
set_option maxRecDepth 100000 in
theorem compacti_any {base : Nat} {v : Value} {l : List Int} (h : OwnI w base v l) (hs : l.Pairwise (· ≤ ·)) (hl : l.length ≤ 6000000000000) : Calls Try.prog 28 #[v] w fun e w' => ∃ v' l', e = .returned v' ∧ OwnI w' base v' l' ∧ l'.Pairwise (· < ·) ∧ (∀ x, x ∈ l' ↔ x ∈ l) ∧ Chg (ob v) w w' ∧ (∀ k ∈ ob v', k ∈ ob v) := by
  have HO := Hid.mk h
  have HS := Hid.mk hs
  obtain ⟨n, Hn⟩ : ∃ n, Hid (l.length = n) := ⟨_, ⟨rfl⟩⟩
  by_cases hn2 : l.length < 2
  · obtain ⟨ao, cap, rfl, _⟩ := h.shape
    have HL : Hid (l.Pairwise (· < ·)) := ⟨by
      match l, hn2 with
      | [], _ => simp
      | [x], _ => simp⟩
    rw [Hn.out] at hn2 HO ⊢
    have hnz : (n : Int) < 2 := by omega
    clear h hs
    go_enter Try.func28, Try.ntmps28
    go_wp2
    go_ret
    exact ⟨_, l, rfl, HO.out, HL.out, fun x => Iff.rfl, Chg.refl _ _, fun k hk => hk⟩
  · rcases h.2 with ⟨_, h0⟩ | ⟨g, cap, cur0, rfl, hb, hh, h1, h2, h3, h4⟩
    · omega
    have HC0 : Hid (w.heap[g]? = some (.cells cur0 3 (0, 0)) ∧ base ≤ g ∧ cap ≤ maxLen ∧ cur0.size = cap ∧ ∀ j, j < n → cur0[j]? = some (.int .i64 (l.getD j 0))) := ⟨hh, hb, h2, by omega, fun j hj => by
      have e : (cur0.toList.take (l.length * 1))[j]? = (iv l)[j]? := by rw [h4]
      rw [List.getElem?_take, if_pos (by rw [Hn.out]; omega), iv_get l (by rw [Hn.out]; exact hj)] at e
      simpa using e⟩
    rw [Hn.out] at hn2 hl h1 HO ⊢
    have hnz : ¬ (n : Int) < 2 := by omega
    have hcn : n ≤ cap := h1
    clear h hs hh h3 h4 hb h1 h2
    go_enter Try.func28, Try.ntmps28
    go_wp2_with fail
    go_loopg [3] n (fun gg s3 wr => ∃ kk : Nat, 1 ≤ kk ∧ kk ≤ n ∧ n - kk ≤ gg ∧ s3 = .int .i64 (kk : Int) ∧ Hid (Once l (l.take kk) kk) ∧ Hid (Chg [] w wr))
    case atStart => exact ⟨1, Nat.le_refl _, by omega, by omega, rfl, ⟨once_one (by rw [Hn.out]; omega)⟩, ⟨Chg.refl _ _⟩⟩
    case round =>
      obtain ⟨kk, hk1, hkk, hgg, rfl, HOn, HG⟩ := hrel
      by_cases hlt : kk < n
      · have hltz : (kk : Int) < (n : Int) := by omega
        have hlL : kk < l.length := by rw [Hn.out]; exact hlt
        have hrow : ∀ w', Chg [] w w' → w'.heap[g]? = some (.cells cur0 3 (0, 0)) := fun w' hc => (hc.block g (Array.getElem?_eq_some_iff.1 HC0.out.1).1 (by simp)).trans HC0.out.1
        have hd1 : wr.drew.cell? ⟨g, kk, none⟩ = some (.int .i64 (l.getD kk 0)) := (cell_of_row _ _ _ _ _ _ (hrow wr.drew HG.out.drew)).trans (HC0.out.2.2.2.2 kk hlt)
        have hd2 : wr.drew.cell? ⟨g, kk - 1, none⟩ = some (.int .i64 (l.getD (kk - 1) 0)) := (cell_of_row _ _ _ _ _ _ (hrow wr.drew HG.out.drew)).trans (HC0.out.2.2.2.2 (kk - 1) (by omega))
        have Hrow := Hid.mk hrow
        clear hrow
        have hsub : (kk : Int) - 1 = ((kk - 1 : Nat) : Int) := by omega
        have hsw : IntKind.i64.wrap ((kk - 1 : Nat) : Int) = ((kk - 1 : Nat) : Int) := IntWalk.i64_in _ ⟨by omega, by omega⟩
        have hk1n : ¬ n ≤ kk - 1 := by omega
        by_cases heq : l.getD kk 0 = l.getD (kk - 1) 0
        · have HOs : Hid (Once l (l.take kk) (kk + 1)) := ⟨HOn.out.same hlL heq⟩
          generalize l.getD kk 0 = y at hd1 heq
          generalize l.getD (kk - 1) 0 = x at hd2 heq
          subst heq
          have hS0 := And.intro hd1 hd2
          clear hd1 hd2
          go_wp2_with fail
          refine wp_region_held_drew (S := (fun w' => w'.cell? ⟨g, kk, none⟩ = some (.int .i64 y) ∧ w'.cell? ⟨g, kk - 1, none⟩ = some (.int .i64 y))) (by kernel_rfl) hS0 (fun hS => ?_)
          refine wpAnyH_take (i := 0) (v := .slice (some ⟨g, 0, none⟩) n cap) rfl (by kernel_rfl) (by kernel_rfl) (by kernel_rfl) (fun _ _ _ h => h) (Or.inl ⟨by kernel_rfl, fun _ _ => by kernel_rfl⟩) hS ?_
          refine wpAnyH_take (i := 1) (v := .int .i64 (kk : Int)) rfl (by kernel_rfl) (by kernel_rfl) (by kernel_rfl) (fun _ _ _ h => h) (Or.inl ⟨by kernel_rfl, fun _ _ => by kernel_rfl⟩) hS ?_
          refine wpAnyH_take (i := 2) (v := .pointer (some ⟨g, kk, none⟩)) rfl (by kernel_rfl) (by kernel_rfl) (by kernel_rfl) (fun _ _ _ h => h) (Or.inl ⟨by kernel_rfl, fun wx hx => by go_simp⟩) hS ?_
          refine wpAnyH_take (i := 3) (v := .int .i64 y) rfl (by kernel_rfl) (by kernel_rfl) (by kernel_rfl) (fun _ _ _ h => h) (Or.inl ⟨by kernel_rfl, fun wx hx => by obtain ⟨hx0, hx1⟩ := hx; go_simp⟩) hS ?_
          refine wpAnyH_take (i := 4) (v := .slice (some ⟨g, 0, none⟩) n cap) rfl (by kernel_rfl) (by kernel_rfl) (by kernel_rfl) (fun _ _ _ h => h) (Or.inl ⟨by kernel_rfl, fun _ _ => by kernel_rfl⟩) hS ?_
          refine wpAnyH_take (i := 5) (v := .int .i64 (kk : Int)) rfl (by kernel_rfl) (by kernel_rfl) (by kernel_rfl) (fun _ _ _ h => h) (Or.inl ⟨by kernel_rfl, fun _ _ => by kernel_rfl⟩) hS ?_
          refine wpAnyH_take (i := 6) (v := .int .i64 ((kk - 1 : Nat) : Int)) rfl (by kernel_rfl) (by kernel_rfl) (by kernel_rfl) (fun _ _ _ h => h) (Or.inl ⟨by kernel_rfl, fun wx hx => by go_simp⟩) hS ?_
          refine wpAnyH_take (i := 7) (v := .pointer (some ⟨g, kk - 1, none⟩)) rfl (by kernel_rfl) (by kernel_rfl) (by kernel_rfl) (fun _ _ _ h => h) (Or.inl ⟨by kernel_rfl, fun wx hx => by go_simp⟩) hS ?_
          refine wpAnyH_take (i := 8) (v := .int .i64 y) rfl (by kernel_rfl) (by kernel_rfl) (by kernel_rfl) (fun _ _ _ h => h) (Or.inl ⟨by kernel_rfl, fun wx hx => by obtain ⟨hx0, hx1⟩ := hx; go_simp⟩) hS ?_
          refine wpAnyH_take (i := 9) (v := .bool true) rfl (by kernel_rfl) (by kernel_rfl) (by kernel_rfl) (fun _ _ _ h => h) (Or.inl ⟨by kernel_rfl, fun wx hx => by go_simp⟩) hS ?_
          refine wpAnyH_done (by kernel_rfl) ?_ _
          clear hS hS0
          go_simp
          go_wp2_with fail
          have HP0 : Hid (Cmp wr.drew g n cap l (l.take kk) (kk + 1) cur0) := ⟨Hrow.out _ HG.out.drew, HC0.out.2.2.2.1, fun j hj => by
            rw [List.length_take] at hj
            rw [HC0.out.2.2.2.2 j (by omega)]
            simp only [List.getD]
            rw [List.getElem?_take, if_pos (by omega)], fun j _ hj => HC0.out.2.2.2.2 j hj, fun j hj => ⟨_, HC0.out.2.2.2.2 j hj⟩⟩
          have HGd : Hid (Chg [] w wr.drew) := ⟨HG.out.drew⟩
          obtain ⟨W, e0⟩ : ∃ x, x = wr := ⟨_, rfl⟩
          subst e0
          go_loopg [3, 5] n (fun gg s3 s5 wq => ∃ j2 : Nat, ∃ P cur, 1 ≤ j2 ∧ kk + j2 ≤ n ∧ n - (kk + j2) ≤ gg ∧ s5 = .int .i64 (j2 : Int) ∧ s3 = .int .i64 (P.length : Int) ∧ P.length < kk + j2 ∧ Hid (Once l P (kk + j2)) ∧ Hid (Cmp wq g n cap l P (kk + j2) cur) ∧ Hid (Chg [g] w wq))
          case atStart => exact ⟨1, l.take kk, cur0, Nat.le_refl _, by omega, by omega, rfl, by rw [List.length_take, Nat.min_eq_left (by rw [Hn.out]; omega)], by rw [List.length_take]; omega, HOs, HP0, ⟨HGd.out.mono (by simp)⟩⟩
          case round =>
            obtain ⟨j2, P, cur, hj1, hj2, hjg, rfl, rfl, hPl, HOp, HCm, HGj⟩ := hrel
            by_cases hjl : kk + j2 < n
            · have hjz : (j2 : Int) < ((n - kk : Nat) : Int) := by omega
              have hjz2 : ¬ n - kk ≤ j2 := by omega
              have hj1n : ¬ n - kk ≤ j2 - 1 := by omega
              have hjs : (j2 : Int) - 1 = ((j2 - 1 : Nat) : Int) := by omega
              have hjw : IntKind.i64.wrap ((j2 - 1 : Nat) : Int) = ((j2 - 1 : Nat) : Int) := IntWalk.i64_in _ ⟨by omega, by omega⟩
              have hjL : kk + j2 < l.length := by rw [Hn.out]; exact hjl
              have hd1 : wr.drew.cell? ⟨g, kk + j2, none⟩ = some (.int .i64 (l.getD (kk + j2) 0)) := (cell_of_row _ _ _ _ _ _ HCm.out.row).trans (HCm.out.snd _ (by omega) hjl)
              have hd2 : wr.drew.cell? ⟨g, kk + (j2 - 1), none⟩ = some (.int .i64 (l.getD (kk + j2 - 1) 0)) := (cell_of_row _ _ _ _ _ _ HCm.out.row).trans ((HCm.out.snd _ (by omega) (by omega)).trans (by rw [show kk + (j2 - 1) = kk + j2 - 1 by omega]))
              by_cases heq : l.getD (kk + j2) 0 = l.getD (kk + j2 - 1) 0
              · have HO2 : Hid (Once l P (kk + (j2 + 1))) := ⟨HOp.out.same hjL heq⟩
                have HC2 : Hid (Cmp wr.drew g n cap l P (kk + (j2 + 1)) cur) := ⟨HCm.out.row, HCm.out.size, HCm.out.fst, fun j h1 h2 => HCm.out.snd j (by omega) h2, HCm.out.all⟩
                generalize l.getD (kk + j2) 0 = y at hd1 heq
                generalize l.getD (kk + j2 - 1) 0 = x at hd2 heq
                subst heq
                have hS0 := And.intro hd1 hd2
                clear hd1 hd2
                go_wp2_with fail
                refine wp_region_held_drew (S := (fun w' => w'.cell? ⟨g, kk + j2, none⟩ = some (.int .i64 y) ∧ w'.cell? ⟨g, kk + (j2 - 1), none⟩ = some (.int .i64 y))) (by kernel_rfl) hS0 (fun hS => ?_)
                refine wpAnyH_take (i := 0) (v := .slice (some ⟨g, kk, none⟩) (n - kk) (cap - kk)) rfl (by kernel_rfl) (by kernel_rfl) (by kernel_rfl) (fun _ _ _ h => h) (Or.inl ⟨by kernel_rfl, fun _ _ => by kernel_rfl⟩) hS ?_
                refine wpAnyH_take (i := 1) (v := .int .i64 (j2 : Int)) rfl (by kernel_rfl) (by kernel_rfl) (by kernel_rfl) (fun _ _ _ h => h) (Or.inl ⟨by kernel_rfl, fun _ _ => by kernel_rfl⟩) hS ?_
                refine wpAnyH_take (i := 2) (v := .pointer (some ⟨g, kk + j2, none⟩)) rfl (by kernel_rfl) (by kernel_rfl) (by kernel_rfl) (fun _ _ _ h => h) (Or.inl ⟨by kernel_rfl, fun wx hx => by go_simp⟩) hS ?_
                refine wpAnyH_take (i := 3) (v := .int .i64 y) rfl (by kernel_rfl) (by kernel_rfl) (by kernel_rfl) (fun _ _ _ h => h) (Or.inl ⟨by kernel_rfl, fun wx hx => by obtain ⟨hx0, hx1⟩ := hx; go_simp⟩) hS ?_
                refine wpAnyH_take (i := 4) (v := .slice (some ⟨g, kk, none⟩) (n - kk) (cap - kk)) rfl (by kernel_rfl) (by kernel_rfl) (by kernel_rfl) (fun _ _ _ h => h) (Or.inl ⟨by kernel_rfl, fun _ _ => by kernel_rfl⟩) hS ?_
                refine wpAnyH_take (i := 5) (v := .int .i64 (j2 : Int)) rfl (by kernel_rfl) (by kernel_rfl) (by kernel_rfl) (fun _ _ _ h => h) (Or.inl ⟨by kernel_rfl, fun _ _ => by kernel_rfl⟩) hS ?_
                refine wpAnyH_take (i := 6) (v := .int .i64 ((j2 - 1 : Nat) : Int)) rfl (by kernel_rfl) (by kernel_rfl) (by kernel_rfl) (fun _ _ _ h => h) (Or.inl ⟨by kernel_rfl, fun wx hx => by go_simp⟩) hS ?_
                refine wpAnyH_take (i := 7) (v := .pointer (some ⟨g, kk + (j2 - 1), none⟩)) rfl (by kernel_rfl) (by kernel_rfl) (by kernel_rfl) (fun _ _ _ h => h) (Or.inl ⟨by kernel_rfl, fun wx hx => by go_simp⟩) hS ?_
                refine wpAnyH_take (i := 8) (v := .int .i64 y) rfl (by kernel_rfl) (by kernel_rfl) (by kernel_rfl) (fun _ _ _ h => h) (Or.inl ⟨by kernel_rfl, fun wx hx => by obtain ⟨hx0, hx1⟩ := hx; go_simp⟩) hS ?_
                refine wpAnyH_take (i := 9) (v := .bool false) rfl (by kernel_rfl) (by kernel_rfl) (by kernel_rfl) (fun _ _ _ h => h) (Or.inl ⟨by kernel_rfl, fun wx hx => by go_simp⟩) hS ?_
                refine wpAnyH_done (by kernel_rfl) ?_ _
                clear hS hS0
                go_simp
                go_wp2_with fail
                go_roundg (n - (kk + (j2 + 1)))
                case measure => omega
                case rel => exact ⟨j2 + 1, P, cur, by omega, by omega, by omega, by go_num, rfl, by omega, HO2, HC2, ⟨HGj.out.drew⟩⟩
              · have HO2 : Hid (Once l (P ++ [l.getD (kk + j2) 0]) (kk + (j2 + 1))) := ⟨HOp.out.next HS.out hjL (by omega) heq⟩
                have hPn : P.length < n := by omega
                have HC2 : Hid (Cmp (wr.drew.setCell ⟨g, P.length, none⟩ (.int .i64 (l.getD (kk + j2) 0))) g n cap l (P ++ [l.getD (kk + j2) 0]) (kk + (j2 + 1)) (cur.setIfInBounds P.length (.int .i64 (l.getD (kk + j2) 0)))) := ⟨heap_setCell_same wr.drew g P.length cur 3 _ HCm.out.row, by simp [HCm.out.size], fun j hj => by
                  simp at hj
                  by_cases e : P.length = j
                  · subst e
                    rw [Array.getElem?_setIfInBounds_self_of_lt (by rw [HCm.out.size]; omega)]
                    simp
                  · rw [Array.getElem?_setIfInBounds_ne e, HCm.out.fst j (by omega)]
                    simp only [List.getD]
                    rw [List.getElem?_append_left (by omega)], fun j h1 h2 => by rw [Array.getElem?_setIfInBounds_ne (by omega)]; exact HCm.out.snd j (by omega) h2, fun j hj => by
                  by_cases e : P.length = j
                  · subst e
                    exact ⟨_, by rw [Array.getElem?_setIfInBounds_self_of_lt (by rw [HCm.out.size]; omega)]⟩
                  · rw [Array.getElem?_setIfInBounds_ne e]; exact HCm.out.all j hj⟩
                obtain ⟨z, hz⟩ := HCm.out.all P.length hPn
                have hcz : wr.drew.cell? ⟨g, P.length, none⟩ = some (.int .i64 z) := (cell_of_row _ _ _ _ _ _ HCm.out.row).trans hz
                have hfz : wr.drew.frozen? ⟨g, P.length, none⟩ = false := frozen_of_row wr.drew _ _ _ 3 HCm.out.row
                have hcy := hd1
                obtain ⟨np, Hnp⟩ : ∃ k, Hid (P.length = k) := ⟨_, ⟨rfl⟩⟩
                have HLp : Hid ((P ++ [l.getD (kk + j2) 0]).length = np + 1) := ⟨by rw [← Hnp.out]; simp⟩
                rw [Hnp.out] at hPn HC2 hcz hfz hPl ⊢
                have hpz : (np : Int) < (n : Int) := by omega
                generalize l.getD (kk + j2) 0 = y at hd1 heq HO2 HC2 hcy HLp
                generalize l.getD (kk + j2 - 1) 0 = x at hd2 heq
                have deq : decide (y = x) = false := by simpa using heq
                have hS0 := And.intro hd1 hd2
                clear hd1 hd2 hz
                go_wp2_with fail
                refine wp_region_held_drew (S := (fun w' => w'.cell? ⟨g, kk + j2, none⟩ = some (.int .i64 y) ∧ w'.cell? ⟨g, kk + (j2 - 1), none⟩ = some (.int .i64 x))) (by kernel_rfl) hS0 (fun hS => ?_)
                refine wpAnyH_take (i := 0) (v := .slice (some ⟨g, kk, none⟩) (n - kk) (cap - kk)) rfl (by kernel_rfl) (by kernel_rfl) (by kernel_rfl) (fun _ _ _ h => h) (Or.inl ⟨by kernel_rfl, fun _ _ => by kernel_rfl⟩) hS ?_
                refine wpAnyH_take (i := 1) (v := .int .i64 (j2 : Int)) rfl (by kernel_rfl) (by kernel_rfl) (by kernel_rfl) (fun _ _ _ h => h) (Or.inl ⟨by kernel_rfl, fun _ _ => by kernel_rfl⟩) hS ?_
                refine wpAnyH_take (i := 2) (v := .pointer (some ⟨g, kk + j2, none⟩)) rfl (by kernel_rfl) (by kernel_rfl) (by kernel_rfl) (fun _ _ _ h => h) (Or.inl ⟨by kernel_rfl, fun wx hx => by go_simp⟩) hS ?_
                refine wpAnyH_take (i := 3) (v := .int .i64 y) rfl (by kernel_rfl) (by kernel_rfl) (by kernel_rfl) (fun _ _ _ h => h) (Or.inl ⟨by kernel_rfl, fun wx hx => by obtain ⟨hx0, hx1⟩ := hx; go_simp⟩) hS ?_
                refine wpAnyH_take (i := 4) (v := .slice (some ⟨g, kk, none⟩) (n - kk) (cap - kk)) rfl (by kernel_rfl) (by kernel_rfl) (by kernel_rfl) (fun _ _ _ h => h) (Or.inl ⟨by kernel_rfl, fun _ _ => by kernel_rfl⟩) hS ?_
                refine wpAnyH_take (i := 5) (v := .int .i64 (j2 : Int)) rfl (by kernel_rfl) (by kernel_rfl) (by kernel_rfl) (fun _ _ _ h => h) (Or.inl ⟨by kernel_rfl, fun _ _ => by kernel_rfl⟩) hS ?_
                refine wpAnyH_take (i := 6) (v := .int .i64 ((j2 - 1 : Nat) : Int)) rfl (by kernel_rfl) (by kernel_rfl) (by kernel_rfl) (fun _ _ _ h => h) (Or.inl ⟨by kernel_rfl, fun wx hx => by go_simp⟩) hS ?_
                refine wpAnyH_take (i := 7) (v := .pointer (some ⟨g, kk + (j2 - 1), none⟩)) rfl (by kernel_rfl) (by kernel_rfl) (by kernel_rfl) (fun _ _ _ h => h) (Or.inl ⟨by kernel_rfl, fun wx hx => by go_simp⟩) hS ?_
                refine wpAnyH_take (i := 8) (v := .int .i64 x) rfl (by kernel_rfl) (by kernel_rfl) (by kernel_rfl) (fun _ _ _ h => h) (Or.inl ⟨by kernel_rfl, fun wx hx => by obtain ⟨hx0, hx1⟩ := hx; go_simp⟩) hS ?_
                refine wpAnyH_take (i := 9) (v := .bool true) rfl (by kernel_rfl) (by kernel_rfl) (by kernel_rfl) (fun _ _ _ h => h) (Or.inl ⟨by kernel_rfl, fun wx hx => by go_simp⟩) hS ?_
                refine wpAnyH_done (by kernel_rfl) ?_ _
                clear hS hS0
                go_simp
                go_wp2_with fail
                go_roundg (n - (kk + (j2 + 1)))
                case measure => omega
                case rel => exact ⟨j2 + 1, P ++ [y], _, by omega, by omega, by omega, by go_num, by rw [HLp.out]; go_num, by rw [HLp.out]; omega, HO2, HC2, ⟨HGj.out.drew.setCell (.inl (by simp)) _⟩⟩
            · obtain ⟨np, Hnp⟩ : ∃ k, Hid (P.length = k) := ⟨_, ⟨rfl⟩⟩
              have hjz : ¬ (j2 : Int) < ((n - kk : Nat) : Int) := by omega
              have hjn : kk + j2 = n := by omega
              have HOn2 : Hid (Once l P n) := ⟨by have := HOp.out; rwa [hjn] at this⟩
              rw [Hnp.out] at hPl ⊢
              have hpn : np < n := by omega
              have hcl : ∀ ty, (Builtin.clear_ #[32] ty #[.slice (some ⟨g, np, none⟩) (n - np) (cap - np)]).run Try.prog wr = .ok (.tuple #[]) (wr.setCells g np (List.replicate (n - np) (.int .i64 0))) := fun ty => Lib.run_clear_slice wr 32 3 ty (.int .i64 0) Try.underlying32 Try.zeroValue3 rfl rfl g np (n - np) (cap - np) (by omega) (fun j hj => by
                obtain ⟨z, hz⟩ := HCm.out.all (np + j) (by omega)
                rw [cell_of_row _ _ _ _ _ _ HCm.out.row, hz]
                rfl) (fun j _ => frozen_of_row wr _ _ _ 3 HCm.out.row)
              have HR : Hid (OwnI (wr.setCells g np (List.replicate (n - np) (.int .i64 0))) base (.slice (some ⟨g, 0, none⟩) np cap) P ∧ Chg [g] w (wr.setCells g np (List.replicate (n - np) (.int .i64 0)))) := ⟨by
                obtain ⟨cur', e1, e2, e3, e4⟩ := setCells_row g 3 (List.replicate (n - np) (.int .i64 0)) np wr cur HCm.out.row
                refine ⟨?_, HGj.out.trans e4⟩
                unfold OwnI
                rw [Hnp.out]
                refine ⟨by rw [iv_len, Hnp.out]; omega, .inr ⟨g, cap, cur', rfl, HC0.out.2.1, e1, by omega, HC0.out.2.2.1, by rw [e2, HCm.out.size]; omega, ?_⟩⟩
                apply List.ext_getElem?
                intro j
                rw [List.getElem?_take, Nat.mul_one]
                by_cases hj : j < np
                · rw [if_pos hj, iv_get P (by rw [Hnp.out]; exact hj), Array.getElem?_toList, e3 j hj, HCm.out.fst j (by rw [Hnp.out]; exact hj)]
                · rw [if_neg hj, List.getElem?_eq_none (by rw [iv_len, Hnp.out]; omega)]⟩
              have hp1 : (np : Int) ≤ (n : Int) := by omega
              have hp2 : ¬ n < np := by omega
              have hp3 : ¬ cap = np := by omega
              have hp4 : ¬ cap < np := by omega
              go_wp2_with fail
              go_ret
              refine ⟨.slice (some ⟨g, 0, none⟩) np cap, rfl, P, HR.out.1, HOn2.out.up, fun x => ?_, HR.out.2, fun k hk => hk⟩
              have := HOn2.out.mem x
              rwa [List.take_of_length_le (by rw [Hn.out]; exact Nat.le_refl _)] at this
        · have HOs : Hid (Once l (l.take (kk + 1)) (kk + 1)) := ⟨once_take HOn.out HS.out hlL (by omega) heq⟩
          generalize l.getD kk 0 = y at hd1 heq
          generalize l.getD (kk - 1) 0 = x at hd2 heq
          have deq : decide (y = x) = false := by simpa using heq
          have hS0 := And.intro hd1 hd2
          clear hd1 hd2
          go_wp2_with fail
          refine wp_region_held_drew (S := (fun w' => w'.cell? ⟨g, kk, none⟩ = some (.int .i64 y) ∧ w'.cell? ⟨g, kk - 1, none⟩ = some (.int .i64 x))) (by kernel_rfl) hS0 (fun hS => ?_)
          refine wpAnyH_take (i := 0) (v := .slice (some ⟨g, 0, none⟩) n cap) rfl (by kernel_rfl) (by kernel_rfl) (by kernel_rfl) (fun _ _ _ h => h) (Or.inl ⟨by kernel_rfl, fun _ _ => by kernel_rfl⟩) hS ?_
          refine wpAnyH_take (i := 1) (v := .int .i64 (kk : Int)) rfl (by kernel_rfl) (by kernel_rfl) (by kernel_rfl) (fun _ _ _ h => h) (Or.inl ⟨by kernel_rfl, fun _ _ => by kernel_rfl⟩) hS ?_
          refine wpAnyH_take (i := 2) (v := .pointer (some ⟨g, kk, none⟩)) rfl (by kernel_rfl) (by kernel_rfl) (by kernel_rfl) (fun _ _ _ h => h) (Or.inl ⟨by kernel_rfl, fun wx hx => by go_simp⟩) hS ?_
          refine wpAnyH_take (i := 3) (v := .int .i64 y) rfl (by kernel_rfl) (by kernel_rfl) (by kernel_rfl) (fun _ _ _ h => h) (Or.inl ⟨by kernel_rfl, fun wx hx => by obtain ⟨hx0, hx1⟩ := hx; go_simp⟩) hS ?_
          refine wpAnyH_take (i := 4) (v := .slice (some ⟨g, 0, none⟩) n cap) rfl (by kernel_rfl) (by kernel_rfl) (by kernel_rfl) (fun _ _ _ h => h) (Or.inl ⟨by kernel_rfl, fun _ _ => by kernel_rfl⟩) hS ?_
          refine wpAnyH_take (i := 5) (v := .int .i64 (kk : Int)) rfl (by kernel_rfl) (by kernel_rfl) (by kernel_rfl) (fun _ _ _ h => h) (Or.inl ⟨by kernel_rfl, fun _ _ => by kernel_rfl⟩) hS ?_
          refine wpAnyH_take (i := 6) (v := .int .i64 ((kk - 1 : Nat) : Int)) rfl (by kernel_rfl) (by kernel_rfl) (by kernel_rfl) (fun _ _ _ h => h) (Or.inl ⟨by kernel_rfl, fun wx hx => by go_simp⟩) hS ?_
          refine wpAnyH_take (i := 7) (v := .pointer (some ⟨g, kk - 1, none⟩)) rfl (by kernel_rfl) (by kernel_rfl) (by kernel_rfl) (fun _ _ _ h => h) (Or.inl ⟨by kernel_rfl, fun wx hx => by go_simp⟩) hS ?_
          refine wpAnyH_take (i := 8) (v := .int .i64 x) rfl (by kernel_rfl) (by kernel_rfl) (by kernel_rfl) (fun _ _ _ h => h) (Or.inl ⟨by kernel_rfl, fun wx hx => by obtain ⟨hx0, hx1⟩ := hx; go_simp⟩) hS ?_
          refine wpAnyH_take (i := 9) (v := .bool false) rfl (by kernel_rfl) (by kernel_rfl) (by kernel_rfl) (fun _ _ _ h => h) (Or.inl ⟨by kernel_rfl, fun wx hx => by go_simp⟩) hS ?_
          refine wpAnyH_done (by kernel_rfl) ?_ _
          clear hS hS0
          go_simp
          go_wp2_with fail
          go_roundg (n - (kk + 1))
          case measure => omega
          case rel => exact ⟨kk + 1, by omega, by omega, by omega, by go_num, HOs, ⟨HG.out.drew⟩⟩
      · obtain rfl : n = kk := by omega
        have HL : Hid (l.take n = l) := ⟨List.take_of_length_le (by rw [Hn.out]; exact Nat.le_refl _)⟩
        go_wp2_with fail
        go_ret
        refine ⟨_, l, rfl, own_far HO.out (HG.out) (by simp), ?_, fun x => Iff.rfl, HG.out.mono (by simp), fun k hk => hk⟩
        have := HOn.out.up
        rw [HL.out] at this
        exact this
end
end Go.Proofs.Ytjcojpddjhjhbaa
