/- The document's Same, of rows that are alike. -/
import Derived.Test.YtngeefipeghjiaaR3
namespace Go.Proofs.Ytngeefipeghjiaa
open Go.RowKit

theorem Rd.cases {w : World} {v : Value} {vs : List Value} (h : Rd w v vs) :
    (vs = [] ∧ ∃ a cap, v = .slice a 0 cap ∧ cap ≤ maxLen ∧ (a = none → cap = 0)) ∨
    (vs ≠ [] ∧ ∃ b off cap, v = .slice (some ⟨b, off, none⟩) vs.length cap ∧ vs.length ≤ cap ∧ cap ≤ maxLen ∧ ∀ i, i < vs.length → w.cell? ⟨b, off + i, none⟩ = vs[i]?) := by
  obtain ⟨a, cap, rfl, hl, hm, hn, hc⟩ := h
  by_cases hb : vs = []
  · subst hb; exact .inl ⟨rfl, a, cap, rfl, hm, hn⟩
  · have hp : 0 < vs.length := List.length_pos_iff.2 hb
    cases a with
    | none => have := hn rfl; omega
    | some x =>
      obtain ⟨b, off, spot⟩ := x
      have h0 := (hc _ rfl 0 hp).trans (List.getElem?_eq_getElem hp)
      have hs : spot = none := by simpa [Addr.add] using World.cell?_spot h0
      subst hs
      exact .inr ⟨hb, b, off, cap, rfl, hl, hm, fun i hi => by rw [← add_plain]; exact hc _ rfl i hi⟩
theorem RowsB.far {w w' : World} {S : Nat → Prop} {v : Value} {L : List (List Int)} {X : List Nat} (h : RowsB w S v L) (hc : Chg X w w') (hx : ∀ k, Ty w 5 k → S k → k ∉ X) (hv : ∀ k, v.ownBlock = some k → k ∉ X) : RowsB w' S v L := by
  obtain ⟨vs, h1, h2⟩ := h
  exact ⟨vs, h1.far hc (fun _ => hv), h2.far hc hx⟩
theorem RowsB.still {w w' : World} {S : Nat → Prop} {v : Value} {L : List (List Int)} (h : RowsB w S v L) (hc : Chg [] w w') : RowsB w' S v L := h.far hc (by simp) (by simp)
theorem RowsB.at {w : World} {S : Nat → Prop} {v : Value} {L : List (List Int)} (h : RowsB w S v L) {i : Nat} (hi : i < L.length) : ∃ b off cap x m q, v = .slice (some ⟨b, off, none⟩) L.length cap ∧ L.length ≤ cap ∧ w.cell? ⟨b, off + i, none⟩ = some (.slice x m q) ∧ Bs w (.slice x m q) (L.getD i []) := by
  obtain ⟨vs, h1, h2⟩ := h
  have hl := h2.1
  rcases h1.cases with ⟨rfl, _⟩ | ⟨_, b, off, cap, rfl, hc, _, hcell⟩
  · simp at hl; omega
  · obtain ⟨u, hu, hb⟩ := h2.2 i hi
    obtain ⟨x, q, rfl, _⟩ := hb.bs
    exact ⟨b, off, cap, x, _, q, by rw [hl], by omega, (hcell i (by omega)).trans hu, hb.bs⟩
theorem RowsB.shape {w : World} {S : Nat → Prop} {v : Value} {L : List (List Int)} (h : RowsB w S v L) : ∃ a cap, v = .slice a L.length cap ∧ L.length ≤ cap ∧ (a = none → cap = 0) := by
  obtain ⟨vs, ⟨a, cap, rfl, hl, _, hn, _⟩, h2⟩ := h
  exact ⟨a, cap, by rw [h2.1], by have := h2.1; omega, hn⟩
section
variable {w : World} {S1 S2 : Nat → Prop} {v1 v2 : Value} {L : List (List Int)}
set_option maxHeartbeats 2000000 in
set_option maxRecDepth 100000 in
theorem same_yes (h1 : RowsB w S1 v1 L) (h2 : RowsB w S2 v2 L) (hL : L.length ≤ 1000000000000) : Calls Try.prog 17 #[v1, v2] w fun e w' => e = .returned (.bool true) ∧ Chg [] w w' := by
  have H1 : Hid (RowsB w S1 v1 L) := ⟨h1⟩
  have H2 : Hid (RowsB w S2 v2 L) := ⟨h2⟩
  obtain ⟨N, HN⟩ : ∃ N, Hid (L.length = N) := ⟨_, ⟨rfl⟩⟩
  obtain ⟨a1, c1, rfl, hc1, _⟩ := h1.shape
  obtain ⟨a2, c2, rfl, hc2, _⟩ := h2.shape
  rw [HN.out] at hL hc1 hc2 H1 H2 ⊢
  clear h1 h2
  go_enter Try.func17, Try.ntmps17
  go_wp2_with fail
  go_loopg [5] N (fun gg s5 wr => ∃ kk : Nat, kk ≤ N ∧ N - kk ≤ gg ∧ s5 = .int .i64 (kk : Int) ∧ Hid (Chg [] w wr))
  case atStart => exact ⟨0, Nat.zero_le _, by omega, rfl, ⟨Chg.refl _ _⟩⟩
  case round =>
    obtain ⟨kk, hkk, hgg, rfl, HG⟩ := hrel
    by_cases hlt : kk < N
    · have hltz : (kk : Int) < (N : Int) := by omega
      have hg2 : Chg [] w wr.drew := HG.out.drew
      have q1 := (H1.out.still hg2).at (i := kk) (by rw [HN.out]; exact hlt)
      have q2 := (H2.out.still hg2).at (i := kk) (by rw [HN.out]; exact hlt)
      rw [HN.out] at q1 q2
      obtain ⟨b1, o1, c1', x1, m1, q1, e1, _, d1, z1⟩ := q1
      obtain ⟨b2, o2, c2', x2, m2, q2, e2, _, d2, z2⟩ := q2
      simp at e1 e2
      obtain ⟨rfl, rfl⟩ := e1
      obtain ⟨rfl, rfl⟩ := e2
      obtain ⟨st, Hst⟩ : ∃ st, Hid (strOfNums (L.getD kk []) = st) := ⟨_, ⟨rfl⟩⟩
      have r1 := run_str z1
      have r2 := run_str z2
      rw [Hst.out] at r1 r2
      have hS0 : wr.drew.cell? ⟨b1, o1 + kk, none⟩ = some (.slice x1 m1 q1) ∧ wr.drew.cell? ⟨b2, o2 + kk, none⟩ = some (.slice x2 m2 q2) ∧ (convert 32 9 (.slice x1 m1 q1)).run Try.prog wr.drew = .ok (.string st) wr.drew ∧ (convert 32 9 (.slice x2 m2 q2)).run Try.prog wr.drew = .ok (.string st) wr.drew := ⟨d1, d2, r1, r2⟩
      clear d1 d2 r1 r2 z1 z2
      go_wp2_with fail
      refine wp_region_held_drew (S := (fun w' => w'.cell? ⟨b1, o1 + kk, none⟩ = some (.slice x1 m1 q1) ∧ w'.cell? ⟨b2, o2 + kk, none⟩ = some (.slice x2 m2 q2) ∧ (convert 32 9 (.slice x1 m1 q1)).run Try.prog w' = .ok (.string st) w' ∧ (convert 32 9 (.slice x2 m2 q2)).run Try.prog w' = .ok (.string st) w')) (by kernel_rfl) hS0 (fun hS => ?_)
      refine wpAnyH_take (i := 0) (v := .slice (some ⟨b1, o1, none⟩) N c1) rfl (by kernel_rfl) (by kernel_rfl) (by kernel_rfl) (fun _ _ _ h => h) (Or.inl ⟨by kernel_rfl, fun _ _ => by kernel_rfl⟩) hS ?_
      refine wpAnyH_take (i := 1) (v := .int .i64 (kk : Int)) rfl (by kernel_rfl) (by kernel_rfl) (by kernel_rfl) (fun _ _ _ h => h) (Or.inl ⟨by kernel_rfl, fun _ _ => by kernel_rfl⟩) hS ?_
      refine wpAnyH_take (i := 2) (v := .pointer (some ⟨b1, o1 + kk, none⟩)) rfl (by kernel_rfl) (by kernel_rfl) (by kernel_rfl) (fun _ _ _ h => h) (Or.inl ⟨by kernel_rfl, fun wx hx => by go_simp⟩) hS ?_
      refine wpAnyH_take (i := 3) (v := .slice x1 m1 q1) rfl (by kernel_rfl) (by kernel_rfl) (by kernel_rfl) (fun _ _ _ h => h) (Or.inl ⟨by kernel_rfl, fun wx hx => by obtain ⟨hx0, hx1, hx2, hx3⟩ := hx; go_simp⟩) hS ?_
      refine wpAnyH_take (i := 4) (v := .string st) rfl (by kernel_rfl) (by kernel_rfl) (by kernel_rfl) (fun _ _ _ h => h) (Or.inl ⟨by kernel_rfl, fun wx hx => by obtain ⟨hx0, hx1, hx2, hx3⟩ := hx; go_simp⟩) hS ?_
      refine wpAnyH_take (i := 5) (v := .slice (some ⟨b2, o2, none⟩) N c2) rfl (by kernel_rfl) (by kernel_rfl) (by kernel_rfl) (fun _ _ _ h => h) (Or.inl ⟨by kernel_rfl, fun _ _ => by kernel_rfl⟩) hS ?_
      refine wpAnyH_take (i := 6) (v := .int .i64 (kk : Int)) rfl (by kernel_rfl) (by kernel_rfl) (by kernel_rfl) (fun _ _ _ h => h) (Or.inl ⟨by kernel_rfl, fun _ _ => by kernel_rfl⟩) hS ?_
      refine wpAnyH_take (i := 7) (v := .pointer (some ⟨b2, o2 + kk, none⟩)) rfl (by kernel_rfl) (by kernel_rfl) (by kernel_rfl) (fun _ _ _ h => h) (Or.inl ⟨by kernel_rfl, fun wx hx => by go_simp⟩) hS ?_
      refine wpAnyH_take (i := 8) (v := .slice x2 m2 q2) rfl (by kernel_rfl) (by kernel_rfl) (by kernel_rfl) (fun _ _ _ h => h) (Or.inl ⟨by kernel_rfl, fun wx hx => by obtain ⟨hx0, hx1, hx2, hx3⟩ := hx; go_simp⟩) hS ?_
      refine wpAnyH_take (i := 9) (v := .string st) rfl (by kernel_rfl) (by kernel_rfl) (by kernel_rfl) (fun _ _ _ h => h) (Or.inl ⟨by kernel_rfl, fun wx hx => by obtain ⟨hx0, hx1, hx2, hx3⟩ := hx; go_simp⟩) hS ?_
      refine wpAnyH_take (i := 10) (v := .bool false) rfl (by kernel_rfl) (by kernel_rfl) (by kernel_rfl) (fun _ _ _ h => h) (Or.inl ⟨by kernel_rfl, fun wx hx => by go_simp⟩) hS ?_
      refine wpAnyH_done (by kernel_rfl) ?_ _
      clear hS hS0
      go_simp
      go_wp2
      go_roundg (N - (kk + 1))
      case measure => omega
      case rel => exact ⟨kk + 1, by omega, by omega, by go_num, ⟨hg2⟩⟩
    · obtain rfl : kk = N := by omega
      go_wp2_with fail
      go_ret
      exact ⟨rfl, HG.out⟩
end
end Go.Proofs.Ytngeefipeghjiaa
