/- Package extent's Free, Most and Runs. -/
import Derived.Test.YtcmibcmndiplbabX5
import Derived.Shelf.Abstract
namespace Go.Proofs.Ytcmibcmndiplbab
open Go.RowKit Go.Lib Go.Shelf

/-- The map at block p: its bounds A, B, and its free spans l, which lie in block b. -/
structure MapAt (w : World) (p : Nat) (A B : Int) (base b cap : Nat) (l : List (Int × Int)) : Prop where
  row : w.heap[p]? = some (.cells #[.int .i64 A, .int .i64 B, .slice (some ⟨b, 0, none⟩) l.length cap] 62 (0, 0))
  own : Own2 w base 57 (.slice (some ⟨b, 0, none⟩) l.length cap) l
  caps : l.length ≤ 100000
  pb : base ≤ p
  ne : p ≠ b

/-- Spans of a disk. -/
def Fine (l : List (Int × Int)) : Prop := ∀ x ∈ l, 0 ≤ x.1 ∧ x.1 ≤ x.2 ∧ x.2 ≤ 4096
def siz (x : Int × Int) : Int := x.2 - x.1
def sumI (l : List Int) : Int := l.foldl (· + ·) 0
def maxI (l : List Int) : Int := l.foldl max 0

theorem cells_row {w : World} {p : Nat} {c0 c1 c2 : Value} {t : TypeId} (h : w.heap[p]? = some (.cells #[c0, c1, c2] t (0, 0))) : w.cell? ⟨p, 0, none⟩ = some c0 ∧ w.cell? ⟨p, 1, none⟩ = some c1 ∧ w.cell? ⟨p, 2, none⟩ = some c2 := by
  refine ⟨?_, ?_, ?_⟩ <;> simp [World.cell?, h]

theorem MapAt.below {w w' : World} {p : Nat} {A B : Int} {base b cap : Nat} {l : List (Int × Int)} (h : MapAt w p A B base b cap l) (hb : Below w.heap.size w w') : MapAt w' p A B base b cap l :=
  ⟨(hb.block p (Array.getElem?_eq_some_iff.1 h.row).1).trans h.row, owns_below h.own hb, h.caps, h.pb, h.ne⟩
theorem MapAt.spAt {w : World} {p : Nat} {A B : Int} {base b cap : Nat} {l : List (Int × Int)} (h : MapAt w p A B base b cap l) : SpAt w b cap l := (Own2.spAt h.own h.caps).2

theorem OwnI.shape {w : World} {base : Nat} {v : Value} {xs : List Int} (h : OwnI w base v xs) : ∃ ao cap, v = .slice ao xs.length cap ∧ ∀ j, j < xs.length → ∃ g, ao = some ⟨g, 0, none⟩ ∧ w.cell? ⟨g, j, none⟩ = some (.int .i64 (xs.getD j 0)) := by
  rcases h.2 with ⟨rfl, h0⟩ | ⟨g, cap, cur, rfl, hb, hh, h1, h2, h3, h4⟩
  · exact ⟨none, 0, by rw [h0], fun j hj => by omega⟩
  · refine ⟨_, cap, rfl, fun j hj => ⟨g, rfl, ?_⟩⟩
    have e2 : (cur.toList.take (xs.length * 1))[j]? = (xs.map (Value.int .i64))[j]? := by rw [h4]
    rw [List.getElem?_take, if_pos (by omega)] at e2
    simp [World.cell?, hh, List.getD_eq_getElem?_getD, List.getElem?_eq_getElem hj] at e2 ⊢
    exact e2

theorem siz_wrap {x : Int × Int} (h : 0 ≤ x.1 ∧ x.1 ≤ x.2 ∧ x.2 ≤ 4096) : wrap64 (x.2 - x.1) = siz x := IntWalk.wrap64_in _ ⟨by omega, by omega⟩
theorem map_siz {l : List (Int × Int)} (h : Fine l) : l.map (fun x => wrap64 (x.2 - x.1)) = l.map siz := List.map_congr_left fun x hx => siz_wrap (h x hx)
theorem siz_in {l : List (Int × Int)} (h : Fine l) : ∀ y ∈ l.map siz, 0 ≤ y ∧ y ≤ 4096 := by
  intro y hy
  obtain ⟨x, hx, rfl⟩ := List.mem_map.1 hy
  have := h x hx
  unfold siz; omega

theorem take_foldl {β : Type} (f : β → Int → β) (z : β) (l : List Int) (k : Nat) (hk : k < l.length) : (l.take (k + 1)).foldl f z = f ((l.take k).foldl f z) (l.getD k 0) := by
  rw [List.take_add_one, List.getElem?_eq_getElem hk, List.foldl_append]
  simp [List.getD, List.getElem?_eq_getElem hk]
theorem sum_in (l : List Int) (h : ∀ y ∈ l, 0 ≤ y ∧ y ≤ 4096) : ∀ k, 0 ≤ sumI (l.take k) ∧ sumI (l.take k) ≤ 4096 * k := by
  intro k
  induction k with
  | zero => simp [sumI]
  | succ k ih =>
    rcases Nat.lt_or_ge k l.length with hk | hk
    · unfold sumI at ih ⊢
      rw [take_foldl _ _ _ _ hk]
      have hm : l.getD k 0 ∈ l := by simp [List.getD, List.getElem?_eq_getElem hk]
      have := h _ hm
      omega
    · rw [List.take_of_length_le (by omega)] at ih ⊢
      omega

set_option maxHeartbeats 2000000 in
theorem free_any {w : World} {p : Nat} {A B : Int} {base b cap : Nat} {l : List (Int × Int)} (h : MapAt w p A B base b cap l) (hf : Fine l) :
    Calls Try.prog 10 #[.pointer (some ⟨p, 0, none⟩)] w fun e w' => e = .returned (.int .i64 (sumI (l.map siz))) ∧ Below w.heap.size w w' := by
  obtain ⟨c0, c1, c2⟩ := cells_row h.row
  have hln : l.length ≤ 100000 := h.caps
  have hcon := told_any 26 _ (enters_of Try.func26 (by kernel_rfl) rfl) b cap l w h.spAt hln (tells_size w)
  rw [map_siz hf] at hcon
  have hin := siz_in hf
  obtain ⟨xs, hxs⟩ : ∃ xs, l.map siz = xs := ⟨_, rfl⟩
  have hxl : xs.length ≤ 100000 := by rw [← hxs]; simpa using hln
  rw [hxs] at hcon hin ⊢
  have HI : Hid (∀ y ∈ xs, 0 ≤ y ∧ y ≤ 4096) := ⟨hin⟩
  clear c0 c1 h hin hxs
  generalize l.length = ln at c2 hcon hln
  go_enter Try.func10, Try.ntmps10
  go_wp2_with (go_at_call 25; refine hcon.mono ?_; rintro e w1 ⟨v, rfl, hv, hb⟩; obtain ⟨ao, cp, rfl, hcell⟩ := hv.shape; clear hcon c2 hv)
  obtain ⟨n, hn⟩ : ∃ n, xs.length = n := ⟨_, rfl⟩
  rw [hn] at hcell hxl ⊢
  have HC : Hid (∀ j, j < n → ∃ g, ao = some ⟨g, 0, none⟩ ∧ w1.cell? ⟨g, j, none⟩ = some (.int .i64 (xs.getD j 0))) := ⟨hcell⟩
  clear hcell
  go_loopg [3, 14] n (fun gg s3 s14 wr => ∃ kk : Nat, kk ≤ n ∧ n - kk ≤ gg ∧ s14 = .int .i64 kk ∧ wr = w1 ∧ s3 = .int .i64 (sumI (xs.take kk)))
  case atStart => exact ⟨0, Nat.zero_le _, by omega, rfl, rfl, rfl⟩
  case round =>
    obtain ⟨kk, hkk, hg, rfl, rfl, rfl⟩ := hrel
    by_cases hlt : kk < n
    · have hltz : (kk : Int) < (n : Int) := by omega
      obtain ⟨g, rfl, cg⟩ := HC.out kk hlt
      have HT : Hid (sumI (xs.take (kk + 1)) = sumI (xs.take kk) + xs.getD kk 0) := ⟨take_foldl _ _ _ _ (by omega)⟩
      have hs1 := sum_in xs HI.out kk
      have hs2 := sum_in xs HI.out (kk + 1)
      rw [HT.out] at hs2
      generalize sumI (xs.take kk) = s at hs1 hs2 HT
      generalize xs.getD kk 0 = y at cg hs2 HT
      have hw : wrap64 (s + y) = s + y := IntWalk.wrap64_in _ ⟨by omega, by omega⟩
      go_wp2
      go_roundg (n - (kk + 1))
      case measure => omega
      case rel => exact ⟨kk + 1, by omega, by omega, by go_num, rfl, by rw [HT.out]⟩
    · go_wp2
      go_ret
      exact ⟨by rw [show kk = xs.length by omega, List.take_length]; rfl, hb⟩
set_option maxHeartbeats 2000000 in
theorem most_any {w : World} {p : Nat} {A B : Int} {base b cap : Nat} {l : List (Int × Int)} (h : MapAt w p A B base b cap l) (hf : Fine l) :
    Calls Try.prog 11 #[.pointer (some ⟨p, 0, none⟩)] w fun e w' => e = .returned (.int .i64 (maxI (l.map siz))) ∧ Below w.heap.size w w' := by
  obtain ⟨c0, c1, c2⟩ := cells_row h.row
  have hln : l.length ≤ 100000 := h.caps
  have hcon := told_any 26 _ (enters_of Try.func26 (by kernel_rfl) rfl) b cap l w h.spAt hln (tells_size w)
  rw [map_siz hf] at hcon
  have hin := siz_in hf
  obtain ⟨xs, hxs⟩ : ∃ xs, l.map siz = xs := ⟨_, rfl⟩
  have hxl : xs.length ≤ 100000 := by rw [← hxs]; simpa using hln
  rw [hxs] at hcon hin ⊢
  have HI : Hid (∀ y ∈ xs, 0 ≤ y ∧ y ≤ 4096) := ⟨hin⟩
  clear c0 c1 h hin hxs
  generalize l.length = ln at c2 hcon hln
  go_enter Try.func11, Try.ntmps11
  go_wp2_with (go_at_call 25; refine hcon.mono ?_; rintro e w1 ⟨v, rfl, hv, hb⟩; obtain ⟨ao, cp, rfl, hcell⟩ := hv.shape; clear hcon c2 hv)
  obtain ⟨n, hn⟩ : ∃ n, xs.length = n := ⟨_, rfl⟩
  rw [hn] at hcell hxl ⊢
  have HC : Hid (∀ j, j < n → ∃ g, ao = some ⟨g, 0, none⟩ ∧ w1.cell? ⟨g, j, none⟩ = some (.int .i64 (xs.getD j 0))) := ⟨hcell⟩
  clear hcell
  go_loopg [3, 14] n (fun gg s3 s14 wr => ∃ kk : Nat, kk ≤ n ∧ n - kk ≤ gg ∧ s14 = .int .i64 kk ∧ wr = w1 ∧ s3 = .int .i64 (maxI (xs.take kk)))
  case atStart => exact ⟨0, Nat.zero_le _, by omega, rfl, rfl, rfl⟩
  case round =>
    obtain ⟨kk, hkk, hg, rfl, rfl, rfl⟩ := hrel
    by_cases hlt : kk < n
    · have hltz : (kk : Int) < (n : Int) := by omega
      obtain ⟨g, rfl, cg⟩ := HC.out kk hlt
      have HT : Hid (maxI (xs.take (kk + 1)) = max (maxI (xs.take kk)) (xs.getD kk 0)) := ⟨take_foldl _ _ _ _ (by omega)⟩
      generalize maxI (xs.take kk) = s at HT ⊢
      generalize xs.getD kk 0 = y at cg HT
      by_cases hsy : s < y
      · have hm : max s y = y := by omega
        go_wp2
        go_roundg (n - (kk + 1))
        case measure => omega
        case rel => exact ⟨kk + 1, by omega, by omega, by go_num, rfl, by rw [HT.out, hm]⟩
      · have hm : max s y = s := by omega
        go_wp2
        go_roundg (n - (kk + 1))
        case measure => omega
        case rel => exact ⟨kk + 1, by omega, by omega, by go_num, rfl, by rw [HT.out, hm]⟩
    · go_wp2
      go_ret
      exact ⟨by rw [show kk = xs.length by omega, List.take_length]; rfl, hb⟩

theorem runs_any {w : World} {p : Nat} {A B : Int} {base b cap : Nat} {l : List (Int × Int)} (h : MapAt w p A B base b cap l) (hf : Fine l) :
    Calls Try.prog 16 #[.pointer (some ⟨p, 0, none⟩)] w fun e w' => ∃ v, e = .returned v ∧ Own2 w' w.heap.size 43 v (l.map fun x => (x.1, siz x)) ∧ Below w.heap.size w w' := by
  obtain ⟨c0, c1, c2⟩ := cells_row h.row
  have hln : l.length ≤ 100000 := h.caps
  have hcon := toldR_any 36 (fun x => (x.1, wrap64 (x.2 - x.1))) (enters_of Try.func36 (by kernel_rfl) rfl) b cap l w h.spAt hln (fun W x _ => run_any x W)
  have e : l.map (fun x => (x.1, wrap64 (x.2 - x.1))) = l.map fun x => (x.1, siz x) := List.map_congr_left fun x hx => by rw [siz_wrap (hf x hx)]
  rw [e] at hcon
  clear c0 c1 h
  generalize l.length = ln at c2 hcon hln
  go_enter Try.func16, Try.ntmps16
  go_wp2_with (go_at_call 35; refine hcon.mono ?_; rintro e w1 ⟨v, rfl, hv, hb⟩)
  go_ret
  exact ⟨v, rfl, hv, hb⟩
end Go.Proofs.Ytcmibcmndiplbab
