/- The law's alike. By ga3.py. -/
import Derived.Test.YtmcikhdfpmkpnaaA2
namespace Go.Proofs.Ytmcikhdfpmkpnaa
open Go.RowKit Go.Maps Go.Sort Go.Shelf

def IntsR (w : World) (ao : Option Addr) (l : List Int) (n : Nat) : Prop := ∀ j, j < n → ∃ b, ao = some ⟨b, 0, none⟩ ∧ w.cell? ⟨b, j, none⟩ = some (.int .i64 (l.getD j 0))
theorem OwnI.reads {w : World} {B : Nat} {v : Value} {l : List Int} (h : OwnI w B v l) : ∃ ao cap, v = .slice ao l.length cap ∧ IntsR w ao l l.length := by
  rcases h.2 with ⟨rfl, hn⟩ | ⟨k, cap, cur, rfl, hb, hh, h1, h2, h3, h4⟩
  · exact ⟨none, 0, by rw [hn], fun i hi => by omega⟩
  · refine ⟨_, cap, rfl, fun i hi => ⟨k, rfl, ?_⟩⟩
    have e : (cur.toList.take (l.length * 1))[i]? = (l.map (Value.int .i64))[i]? := by rw [h4]
    rw [List.getElem?_take, if_pos (by omega)] at e
    rw [cell_of_row w k i cur 3 _ hh, ← Array.getElem?_toList, e]
    simp [List.getD, List.getElem?_eq_getElem hi]
theorem IntsR.below {w w' : World} {ao : Option Addr} {l : List Int} {n : Nat} (h : IntsR w ao l n) (hb : Below w.heap.size w w') : IntsR w' ao l n := by
  intro j hj
  obtain ⟨b, e, hc⟩ := h j hj
  exact ⟨b, e, (hb.cell (World.block_lt_of_cell? _ _ hc)).trans hc⟩

set_option maxRecDepth 8000 in
set_option maxHeartbeats 8000000 in
theorem alike_any {w : World} {p g bm q base : Nat} {d : Dk} (h : Pair w p g bm q base d) :
    Calls Try.prog 16 #[.pointer (some ⟨p, 0, none⟩), .pointer (some ⟨q, 0, none⟩)] w fun e w' => e = .returned (.bool true) ∧ Below w.heap.size w w' := by
  have HP : Hid (Pair w p g bm q base d) := ⟨h⟩
  have t1 := dirty_any h.a
  have hql := h.r.lt
  clear h
  obtain ⟨l, Hl⟩ : ∃ l, Hid (dlI d.S = l) := ⟨_, ⟨rfl⟩⟩
  have hl5 : l.length ≤ 4096 := by
    rw [← Hl.out]
    obtain ⟨_, _, r⟩ := HP.out.r
    have := r.len
    have := dl_le d.S
    simp [dlI]; omega
  rw [Hl.out] at t1
  go_enter Try.func16, Try.ntmps16
  go_upto_region 2 with (first
    | (go_at_call 14; refine t1.mono ?_; rintro e w1 ⟨v1, rfl, hO1, hc1⟩; clear t1; have t2 := rdirty_any (HP.out.r.below hc1); rw [Hl.out] at t2; obtain ⟨a1, c1, rfl, hI1⟩ := hO1.reads; have HI1 : Hid (IntsR w1 a1 l l.length) := ⟨hI1⟩; have HC1 : Hid (Below w.heap.size w w1) := ⟨hc1⟩; clear hO1 hI1 hc1)
    | (go_at_call 30; refine t2.mono ?_; rintro e w2 ⟨v2, rfl, hO2, hc2⟩; clear t2; obtain ⟨a2, c2, rfl, hI2⟩ := hO2.reads; have HC2 : Hid (Below w.heap.size w w2.drew) := ⟨(HC1.out.trans (hc2.mono HC1.out.size)).drew⟩; have HI2 : Hid (IntsR w2.drew a2 l l.length) := ⟨hI2⟩; have HI3 : Hid (IntsR w2.drew a1 l l.length) := ⟨HI1.out.below hc2.drew⟩; clear HI1 hI2 HC1 hO2 hc2))
  have HP2 : Hid (Pair w2.drew p g bm q base d) := ⟨HP.out.below HC2.out⟩
  have tsec := sectors_any HP2.out.a
  obtain ⟨N, HN⟩ : ∃ N, Hid (d.S.length = N) := ⟨_, ⟨rfl⟩⟩
  obtain ⟨n, Hn⟩ : ∃ n, Hid (l.length = n) := ⟨_, ⟨rfl⟩⟩
  have HQ : Hid (∃ aq cq, w2.drew.cell? ⟨q, 0, none⟩ = some (.slice aq N cq) ∧ N ≤ 4096) := ⟨by
    obtain ⟨vq, arq, hR⟩ := HP2.out.r
    obtain ⟨aq, cq, e, _⟩ := hR.own.shape
    have := hR.len
    rw [HN.out] at e this
    exact ⟨aq, cq, by rw [← e]; exact hR.cells.1, this⟩⟩
  rw [HN.out] at tsec
  rw [Hn.out] at hl5 HI2 HI3 ⊢
  obtain ⟨aq, cq, cq0, hN5⟩ := HQ.out
  clear HQ
  refine wp_region_held_drew (S := fun w' => w'.cell? ⟨q, 0, none⟩ = some (.slice aq N cq)) (by kernel_rfl) cq0 (fun hS => ?_)
  refine wpAnyH_take (i := 0) (v := (.slice a1 n c1)) rfl (by kernel_rfl) (by kernel_rfl) (by kernel_rfl) (fun _ _ _ h => h) (Or.inl ⟨by kernel_rfl, fun wx hx => by kernel_rfl⟩) hS ?_
  refine wpAnyH_take (i := 1) (v := (.int .i64 (n : Int))) rfl (by kernel_rfl) (by kernel_rfl) (by kernel_rfl) (fun _ _ _ h => h) (Or.inl ⟨by kernel_rfl, fun wx hx => by go_simp⟩) hS ?_
  refine wpAnyH_take (i := 2) (v := (.slice a2 n c2)) rfl (by kernel_rfl) (by kernel_rfl) (by kernel_rfl) (fun _ _ _ h => h) (Or.inl ⟨by kernel_rfl, fun wx hx => by kernel_rfl⟩) hS ?_
  refine wpAnyH_take (i := 3) (v := (.int .i64 (n : Int))) rfl (by kernel_rfl) (by kernel_rfl) (by kernel_rfl) (fun _ _ _ h => h) (Or.inl ⟨by kernel_rfl, fun wx hx => by go_simp⟩) hS ?_
  refine wpAnyH_take (i := 4) (v := (.bool false)) rfl (by kernel_rfl) (by kernel_rfl) (by kernel_rfl) (fun _ _ _ h => h) (Or.inl ⟨by kernel_rfl, fun wx hx => by go_simp⟩) hS ?_
  refine wpAnyH_take (i := 5) (v := (.bool false)) rfl (by kernel_rfl) (by kernel_rfl) (by kernel_rfl) (fun _ _ _ h => h) (Or.inl ⟨by kernel_rfl, fun wx hx => by kernel_rfl⟩) hS ?_
  refine wpAnyH_take (i := 6) (v := (.pointer (some ⟨p, 0, none⟩))) rfl (by kernel_rfl) (by kernel_rfl) (by kernel_rfl) (fun _ _ _ h => h) (Or.inl ⟨by kernel_rfl, fun wx hx => by kernel_rfl⟩) hS ?_
  refine wpAnyH_take (i := 8) (v := (.pointer (some ⟨q, 0, none⟩))) rfl (by kernel_rfl) (by kernel_rfl) (by kernel_rfl) (fun _ _ _ h => h) (Or.inl ⟨by kernel_rfl, fun wx hx => by kernel_rfl⟩) hS ?_
  refine wpAnyH_take (i := 9) (v := (.pointer (some ⟨q, 0, none⟩))) rfl (by kernel_rfl) (by kernel_rfl) (by kernel_rfl) (fun _ _ _ h => h) (Or.inl ⟨by kernel_rfl, fun wx hx => by go_simp⟩) hS ?_
  refine wpAnyH_take (i := 10) (v := (.pointer (some ⟨q, 0, none⟩))) rfl (by kernel_rfl) (by kernel_rfl) (by kernel_rfl) (fun _ _ _ h => h) (Or.inl ⟨by kernel_rfl, fun wx hx => by go_simp⟩) hS ?_
  refine wpAnyH_take (i := 11) (v := (.slice aq N cq)) rfl (by kernel_rfl) (by kernel_rfl) (by kernel_rfl) (fun _ _ _ h => h) (Or.inl ⟨by kernel_rfl, fun wx hx => by go_simp⟩) hS ?_
  refine wpAnyH_take (i := 12) (v := (.int .i64 (N : Int))) rfl (by kernel_rfl) (by kernel_rfl) (by kernel_rfl) (fun _ _ _ h => h) (Or.inl ⟨by kernel_rfl, fun wx hx => by go_simp⟩) hS ?_
  refine wpAnyH_ready (rs := [7]) (by kernel_rfl) (by simp) (AllReadyH.cons rfl (fun Kc hK => ?_) AllReadyH.nil)
  go_simp
  refine tsec.mono ?_
  rintro e w9 ⟨rfl, rfl⟩
  refine hK.out _ _ cq0 (fun hS => ?_)
  clear hK tsec
  refine wpAnyH_take (i := 13) (v := (.bool false)) rfl (by kernel_rfl) (by kernel_rfl) (by kernel_rfl) (fun _ _ _ h => h) (Or.inl ⟨by kernel_rfl, fun wx hx => by go_simp⟩) hS ?_
  refine wpAnyH_take (i := 14) (v := (.bool false)) rfl (by kernel_rfl) (by kernel_rfl) (by kernel_rfl) (fun _ _ _ h => h) (Or.inl ⟨by kernel_rfl, fun wx hx => by go_simp⟩) hS ?_
  refine wpAnyH_done (by kernel_rfl) ?_ _
  clear hS
  go_simp
  go_wp2_with fail
  generalize w2.drew = w3 at cq0 HC2 HI2 HI3 HP2 ⊢
  have hq3 : q < w3.heap.size := Nat.lt_of_lt_of_le hql HC2.out.size
  go_loopg [7] n (fun gg s wr => ∃ kk : Nat, kk ≤ n ∧ n - kk ≤ gg ∧ s = .int .i64 (kk : Int) ∧ Hid (Below w3.heap.size w3 wr))
  case atStart => exact ⟨0, Nat.zero_le _, by omega, rfl, ⟨Below.refl _ _⟩⟩
  case round =>
    obtain ⟨kk, hkk, hgg, rfl, HB⟩ := hrel
    by_cases hlt : kk < n
    · have hltz : (kk : Int) < (n : Int) := by omega
      obtain ⟨k1, rfl, e1⟩ := (HI3.out.below HB.out) kk hlt
      obtain ⟨k2, rfl, e2⟩ := (HI2.out.below HB.out) kk hlt
      generalize l.getD kk 0 = z at e1 e2
      go_wp2_with fail
      go_quiet (fail)
      go_wp2_with fail
      go_roundg (n - (kk + 1))
      case measure => omega
      case rel => exact ⟨kk + 1, by omega, by omega, by go_num, ⟨⟨HB.out.os, HB.out.tape, HB.out.output, HB.out.size, HB.out.block⟩⟩⟩
    · have hltz : ¬ (kk : Int) < (n : Int) := by omega
      clear HI2 HI3
      go_wp2_with fail
      clear HP
      go_loopg [8, 9, 10, 11, 12] (N + 2) (fun gg s8 _ _ _ _ wx => ∃ ll : Nat, ll ≤ N + 2 ∧ N + 2 - ll ≤ gg ∧ s8 = .int .i64 ((ll : Int) - 1) ∧ Hid (Below w3.heap.size w3 wx))
      case atStart => exact ⟨0, Nat.zero_le _, by omega, by simp, HB⟩
      case round =>
        clear HB
        obtain ⟨ll, hll, hgl, rfl, HB⟩ := hrel
        rename World => wx
        obtain ⟨i, Hi⟩ : ∃ i : Int, Hid ((ll : Int) - 1 = i) := ⟨_, ⟨rfl⟩⟩
        have hi0 : -1 ≤ i := by have := Hi.out; omega
        rw [Hi.out]
        have e0 : wx.cell? ⟨q, 0, none⟩ = some (.slice aq N cq) := (HB.out.cell (p := ⟨q, 0, none⟩) hq3).trans cq0
        by_cases hiN : i ≤ (N : Int)
        · have hHi := Hi.out
          have hl2 : ll < N + 2 := by omega
          clear hHi
          have HPx : Hid (Pair wx p g bm q base d) := ⟨HP2.out.below HB.out⟩
          have t1 := read_any HPx.out.a i
          obtain ⟨hyt, hyl⟩ := rdB_byt HPx.out.a i
          obtain ⟨rb, Hrb⟩ : ∃ rb, Hid (rdB d i = rb) := ⟨_, ⟨rfl⟩⟩
          rw [Hrb.out] at t1 hyt hyl
          obtain ⟨re, Hre⟩ : ∃ re, Hid (rdE d i = re) := ⟨_, ⟨rfl⟩⟩
          rw [Hre.out] at t1
          go_wp2_with (first
            | (go_at_call 21; refine t1.mono ?_; rintro e wy ⟨rv, rfl, hO2, hc2⟩; clear t1; have t2 := rread_any (HPx.out.r.below hc2) i; unfold RRead at t2; rw [Hrb.out, Hre.out] at t2; have HB2 : Hid (Bs wy rv rb) := ⟨hO2.bs hyt⟩; clear hO2; have HC2 : Hid (Below w3.heap.size w3 wy) := ⟨HB.out.trans (hc2.mono HB.out.size)⟩; clear hc2)
            | (go_at_call 31; refine t2.mono ?_; rintro e wz ⟨rv2, rfl, hcv, hc3⟩; clear t2; have hcv1 := run_str (HB2.out.below hc3); generalize strOfNums rb = sb at hcv hcv1; have HC3 : Hid (Below w3.heap.size w3 wz) := ⟨HC2.out.trans (hc3.mono HC2.out.size)⟩; clear hc3 HC2 HB2))
          go_roundg (N + 2 - (ll + 1))
          case measure => omega
          case rel => exact ⟨ll + 1, by omega, by omega, by have := Hi.out; first | (congr 1; omega) | (rw [IntWalk.wrap64_in _ ⟨by omega, by omega⟩]; congr 1; omega), HC3⟩
        · go_wp2_with fail
          go_ret
          exact ⟨rfl, HC2.out.trans (HB.out.mono HC2.out.size)⟩
end Go.Proofs.Ytmcikhdfpmkpnaa
