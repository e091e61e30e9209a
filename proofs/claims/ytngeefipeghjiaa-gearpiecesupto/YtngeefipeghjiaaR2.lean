/- The document's First. -/
import Derived.Test.YtngeefipeghjiaaR1
namespace Go.Proofs.Ytngeefipeghjiaa
open Go.RowKit

theorem Bs.take {w : World} {a : Option Addr} {n cap k : Nat} {ps : List Int} (h : Bs w (.slice a n cap) ps) (hk : k ≤ n) : Bs w (.slice a k cap) (ps.take k) := by
  obtain ⟨a', cap', e, hl, hm, hn, hc, hy⟩ := h
  simp at e
  obtain ⟨rfl, rfl, rfl⟩ := e
  have hlen : (ps.take k).length = k := by rw [List.length_take]; omega
  refine ⟨a, cap, by rw [hlen], by omega, hm, hn, fun x hx i hi => ?_, fun y hy' => hy y (List.mem_of_mem_take hy')⟩
  rw [hc x hx i (by omega)]
  simp only [List.getD]
  rw [List.getElem?_take, if_pos (by omega)]
section
variable {w : World} {mn av mx : Int}
set_option maxHeartbeats 4000000 in
set_option maxRecDepth 100000 in
theorem first_any (h : okC mn av mx) (ta : Array Value) (T : Nat → Int) (hT : Tab ta T) (pv : Value) (ps : List Int) (hp : Bs w pv ps) (hps : ps.length ≤ 1000000000000) : Calls Try.prog 30 #[.agg #[.int .i64 mn, .int .i64 av, .int .i64 mx], .agg ta, pv] w fun e w' => ∃ k : Nat, e = .returned (.int .i64 (k : Int)) ∧ Fst (endB mn av mx T) ps k ∧ Below w.heap.size w w' := by
  obtain ⟨w1, HW1⟩ : ∃ w1, Hid ((w.alloc (.cells #[.int .i64 mn, .int .i64 av, .int .i64 mx] 24)).alloc (.cells ta 27) = w1) := ⟨_, ⟨rfl⟩⟩
  have Hb : Hid (Below w.heap.size w w1) := ⟨by rw [← HW1.out]; exact ((Below.refl _ w).alloc (Nat.le_refl _) _).alloc (by simp) _⟩
  have hx : w1.heap[w.heap.size]? = some (.cells #[.int .i64 mn, .int .i64 av, .int .i64 mx] 24 (0, 0)) := by
    rw [← HW1.out, Below.heap_alloc _ _ _ (by simp)]; exact heap_alloc_new w _
  have hx1 : w1.heap[w.heap.size + 1]? = some (.cells ta 27 (0, 0)) := by
    rw [← HW1.out]
    have := heap_alloc_new (w.alloc (.cells #[.int .i64 mn, .int .i64 av, .int .i64 mx] 24)) (.cells ta 27)
    rw [show (w.alloc (.cells #[.int .i64 mn, .int .i64 av, .int .i64 mx] 24)).heap.size = w.heap.size + 1 by simp] at this
    exact this
  have HX : Hid (w1.heap[w.heap.size]? = some (.cells #[.int .i64 mn, .int .i64 av, .int .i64 mx] 24 (0, 0)) ∧ w1.heap[w.heap.size + 1]? = some (.cells ta 27 (0, 0)) ∧ w1.heap.size = w.heap.size + 2) := ⟨hx, hx1, by rw [← HW1.out]; simp⟩
  have c0 : w1.cell? ⟨w.heap.size, 0, none⟩ = some (.int .i64 mn) := by rw [cell_of_row _ _ _ _ _ _ hx]; rfl
  have HP : Hid (Bs w1 pv ps) := ⟨hp.below Hb.out⟩
  obtain ⟨ao, cap, rfl, hpl, hpm, hpn, hpc, hpy⟩ := hp
  have HT : Hid (Tab ta T) := ⟨hT⟩
  have Hok : Hid (okC mn av mx) := ⟨h⟩
  have hmn := h.1
  have hmm := h.2.1
  have hmx := h.2.2.1
  have hq := quo_av h.2.2.2
  obtain ⟨N, HN⟩ : ∃ N, Hid (ps.length = N) := ⟨_, ⟨rfl⟩⟩
  have hpl' : ps.length ≤ cap := hpl
  rw [HN.out] at hps hpl' HP
  obtain ⟨k0, Hk0⟩ : ∃ k0 : Nat, Hid (mn = (k0 : Int)) := ⟨mn.toNat, ⟨by omega⟩⟩
  obtain ⟨E, HE⟩ : ∃ E, Hid (endB mn av mx T = E) := ⟨_, ⟨rfl⟩⟩
  rw [HE.out]
  clear hpc hpy hT hpn hpl h hx hx1
  go_enter Try.func30, Try.ntmps30
  rw [HN.out]
  go_upto_region 1 with (refine wpl_box27 rfl (.tmp 1) ta rfl rfl ?_)
  rw [HW1.out]
  obtain ⟨B, HBB⟩ : ∃ B, Hid (w.heap.size = B) := ⟨_, ⟨rfl⟩⟩
  rw [HBB.out] at HX c0 Hb ⊢
  have hpl27 : (Try.prog.info? 27).map (·.size) = some ta.size := by rw [HT.out.1]; exact info27
  have hSS : ∀ w', Below (B + 2) w1 w' → w'.cell? ⟨B, 1, none⟩ = some (.int .i64 av) ∧ w'.cell? ⟨B, 2, none⟩ = some (.int .i64 mx) ∧ (loadVar 27 ⟨B + 1, 0, none⟩).run Try.prog w' = .ok (.agg ta) w' := fun w' hb' => by
    have hy := (hb'.block B (by omega)).trans HX.out.1
    refine ⟨?_, ?_, run_loadVar_row w' (B + 1) 27 27 ta (0, 0) (.array 256 26) ((hb'.block (B + 1) (by omega)).trans HX.out.2.1) Try.underlying27 rfl hpl27⟩
    · rw [cell_of_row _ _ _ _ _ _ hy]; rfl
    · rw [cell_of_row _ _ _ _ _ _ hy]; rfl
  go_wp2_with fail
  rw [Hk0.out]
  go_loopg [7] (N + 1) (fun gg s7 wr => ∃ kk : Nat, k0 ≤ kk ∧ (kk : Int) ≤ mx ∧ N + 1 - kk ≤ gg ∧ s7 = .int .i64 (kk : Int) ∧ Hid (Below (B + 2) w1 wr) ∧ Hid (NoE E ps kk))
  case atStart => exact ⟨k0, Nat.le_refl _, by have := Hk0.out; omega, by omega, rfl, ⟨Below.refl _ _⟩, ⟨by rw [← HE.out]; exact noE_start Hok.out Hk0.out⟩⟩
  case round =>
    obtain ⟨kk, hkk, hkm, hgg, rfl, HB, HNo⟩ := hrel
    have hsz : B + 2 ≤ wr.heap.size := by have := HB.out.size; rw [HX.out.2.2] at this; exact this
    have hk1 : 1 ≤ kk := by have := Hk0.out; omega
    by_cases hlt : kk ≤ N
    · have hltz : (kk : Int) ≤ (N : Int) := by omega
      have HEv : Hid (E (ps.take kk) = decide ((kk : Int) = mx ∨ hsh T (ps.take kk) * av < 4294967296)) := ⟨by rw [← HE.out]; exact endB_at Hok.out (by have := Hk0.out; omega) hkm (by rw [HN.out]; exact hlt)⟩
      have hS0 := hSS wr.drew HB.out.drew
      by_cases hmk : (kk : Int) = mx
      · have HF : Hid (Fst E ps kk) := ⟨noE_hit HNo.out hk1 (by rw [HN.out]; exact hlt) (by rw [HEv.out, decide_eq_true (.inl hmk)])⟩
        clear HEv
        go_wp2_with fail
        refine wp_region_held_drew (S := (fun w' => w'.cell? ⟨B, 1, none⟩ = some (.int .i64 av) ∧ w'.cell? ⟨B, 2, none⟩ = some (.int .i64 mx) ∧ (loadVar 27 ⟨B + 1, 0, none⟩).run Try.prog w' = .ok (.agg ta) w')) (by kernel_rfl) hS0 (fun hS => ?_)
        refine wpAnyH_take (i := 0) (v := .int .i64 (kk : Int)) rfl (by kernel_rfl) (by kernel_rfl) (by kernel_rfl) (fun _ _ _ h => h) (Or.inl ⟨by kernel_rfl, fun _ _ => by kernel_rfl⟩) hS ?_
        refine wpAnyH_take (i := 1) (v := .pointer (some ⟨B, 2, none⟩)) rfl (by kernel_rfl) (by kernel_rfl) (by kernel_rfl) (fun _ _ _ h => h) (Or.inl ⟨by kernel_rfl, fun wx hx => by go_simp⟩) hS ?_
        refine wpAnyH_take (i := 2) (v := .int .i64 mx) rfl (by kernel_rfl) (by kernel_rfl) (by kernel_rfl) (fun _ _ _ h => h) (Or.inl ⟨by kernel_rfl, fun wx hx => by obtain ⟨hx0, hx1, hx2⟩ := hx; go_simp⟩) hS ?_
        refine wpAnyH_take (i := 3) (v := .bool true) rfl (by kernel_rfl) (by kernel_rfl) (by kernel_rfl) (fun _ _ _ h => h) (Or.inl ⟨by kernel_rfl, fun wx hx => by go_simp⟩) hS ?_
        refine wpAnyH_take (i := 4) (v := .bool true) rfl (by kernel_rfl) (by kernel_rfl) (by kernel_rfl) (fun _ _ _ h => h) (Or.inl ⟨by kernel_rfl, fun _ _ => by kernel_rfl⟩) hS ?_
        refine wpAnyH_take (i := 5) (v := undef) rfl (by kernel_rfl) (by kernel_rfl) (by kernel_rfl) (fun _ _ _ h => h) (Or.inr ⟨by kernel_rfl, rfl⟩) hS ?_
        refine wpAnyH_take (i := 6) (v := undef) rfl (by kernel_rfl) (by kernel_rfl) (by kernel_rfl) (fun _ _ _ h => h) (Or.inr ⟨by kernel_rfl, rfl⟩) hS ?_
        refine wpAnyH_take (i := 7) (v := undef) rfl (by kernel_rfl) (by kernel_rfl) (by kernel_rfl) (fun _ _ _ h => h) (Or.inr ⟨by kernel_rfl, rfl⟩) hS ?_
        refine wpAnyH_take (i := 8) (v := undef) rfl (by kernel_rfl) (by kernel_rfl) (by kernel_rfl) (fun _ _ _ h => h) (Or.inr ⟨by kernel_rfl, rfl⟩) hS ?_
        refine wpAnyH_take (i := 9) (v := undef) rfl (by kernel_rfl) (by kernel_rfl) (by kernel_rfl) (fun _ _ _ h => h) (Or.inr ⟨by kernel_rfl, rfl⟩) hS ?_
        refine wpAnyH_take (i := 10) (v := undef) rfl (by kernel_rfl) (by kernel_rfl) (by kernel_rfl) (fun _ _ _ h => h) (Or.inr ⟨by kernel_rfl, rfl⟩) hS ?_
        refine wpAnyH_take (i := 11) (v := undef) rfl (by kernel_rfl) (by kernel_rfl) (by kernel_rfl) (fun _ _ _ h => h) (Or.inr ⟨by kernel_rfl, rfl⟩) hS ?_
        refine wpAnyH_take (i := 12) (v := undef) rfl (by kernel_rfl) (by kernel_rfl) (by kernel_rfl) (fun _ _ _ h => h) (Or.inr ⟨by kernel_rfl, rfl⟩) hS ?_
        refine wpAnyH_take (i := 13) (v := undef) rfl (by kernel_rfl) (by kernel_rfl) (by kernel_rfl) (fun _ _ _ h => h) (Or.inr ⟨by kernel_rfl, rfl⟩) hS ?_
        refine wpAnyH_take (i := 14) (v := undef) rfl (by kernel_rfl) (by kernel_rfl) (by kernel_rfl) (fun _ _ _ h => h) (Or.inr ⟨by kernel_rfl, rfl⟩) hS ?_
        refine wpAnyH_take (i := 15) (v := undef) rfl (by kernel_rfl) (by kernel_rfl) (by kernel_rfl) (fun _ _ _ h => h) (Or.inr ⟨by kernel_rfl, rfl⟩) hS ?_
        refine wpAnyH_take (i := 16) (v := .bool true) rfl (by kernel_rfl) (by kernel_rfl) (by kernel_rfl) (fun _ _ _ h => h) (Or.inl ⟨by kernel_rfl, fun _ _ => by kernel_rfl⟩) hS ?_
        refine wpAnyH_done (by kernel_rfl) ?_ _
        clear hS hS0
        go_simp
        go_wp2
        go_ret
        exact ⟨kk, by rw [hmk]; rfl, HF.out, by rw [HBB.out]; exact Hb.out.trans ((HB.out.mono (by omega)).drew)⟩
      · have hP1 : Bs wr.drew (.slice ao kk cap) (ps.take kk) := by
          have h1 := HP.out.below (HB.out.mono (by rw [HX.out.2.2]; omega))
          exact (h1.below (Below.refl _ wr).drew).take hlt
        have th := hash_any ta T HT.out (.slice ao kk cap) (ps.take kk) hP1 (by have := List.length_take_le kk ps; omega)
        have hrg := hsh_rng T (ps.take kk)
        generalize hsh T (ps.take kk) = hv at HEv hrg th
        have hmul : 0 ≤ hv * av ∧ hv * av < 1099511627776 := by
          refine ⟨Int.mul_nonneg (by omega) (by omega), ?_⟩
          calc hv * av ≤ hv * 256 := Int.mul_le_mul_of_nonneg_left (by omega) (by omega)
            _ < 1099511627776 := by omega
        have hkc : ¬ cap < kk := by omega
        have hwa : IntKind.u64.wrap av = av := by rw [wrap_u64]; omega
        have hwh : IntKind.u64.wrap hv = hv := by rw [wrap_u64]; omega
        have hwm : IntKind.u64.wrap (hv * av) = hv * av := by rw [wrap_u64]; omega
        have dmk : decide ((kk : Int) = mx) = false := by simpa using hmk
        clear hP1
        by_cases hlow : hv * av < 4294967296
        · have HF : Hid (Fst E ps kk) := ⟨noE_hit HNo.out hk1 (by rw [HN.out]; exact hlt) (by rw [HEv.out, decide_eq_true (.inr hlow)])⟩
          clear HEv
          go_wp2_with fail
          refine wp_region_held_drew (S := (fun w' => w'.cell? ⟨B, 1, none⟩ = some (.int .i64 av) ∧ w'.cell? ⟨B, 2, none⟩ = some (.int .i64 mx) ∧ (loadVar 27 ⟨B + 1, 0, none⟩).run Try.prog w' = .ok (.agg ta) w')) (by kernel_rfl) hS0 (fun hS => ?_)
          refine wpAnyH_take (i := 0) (v := .int .i64 (kk : Int)) rfl (by kernel_rfl) (by kernel_rfl) (by kernel_rfl) (fun _ _ _ h => h) (Or.inl ⟨by kernel_rfl, fun _ _ => by kernel_rfl⟩) hS ?_
          refine wpAnyH_take (i := 1) (v := .pointer (some ⟨B, 2, none⟩)) rfl (by kernel_rfl) (by kernel_rfl) (by kernel_rfl) (fun _ _ _ h => h) (Or.inl ⟨by kernel_rfl, fun wx hx => by go_simp⟩) hS ?_
          refine wpAnyH_take (i := 2) (v := .int .i64 mx) rfl (by kernel_rfl) (by kernel_rfl) (by kernel_rfl) (fun _ _ _ h => h) (Or.inl ⟨by kernel_rfl, fun wx hx => by obtain ⟨hx0, hx1, hx2⟩ := hx; go_simp⟩) hS ?_
          refine wpAnyH_take (i := 3) (v := .bool false) rfl (by kernel_rfl) (by kernel_rfl) (by kernel_rfl) (fun _ _ _ h => h) (Or.inl ⟨by kernel_rfl, fun wx hx => by go_simp⟩) hS ?_
          refine wpAnyH_take (i := 4) (v := .bool false) rfl (by kernel_rfl) (by kernel_rfl) (by kernel_rfl) (fun _ _ _ h => h) (Or.inl ⟨by kernel_rfl, fun _ _ => by kernel_rfl⟩) hS ?_
          refine wpAnyH_take (i := 5) (v := .agg ta) rfl (by kernel_rfl) (by kernel_rfl) (by kernel_rfl) (fun _ _ _ h => h) (Or.inl ⟨by kernel_rfl, fun wx hx => yld_load (x := .tmp 4) rfl (by kernel_rfl) hx.2.2⟩) hS ?_
          refine wpAnyH_take (i := 6) (v := .slice ao N cap) rfl (by kernel_rfl) (by kernel_rfl) (by kernel_rfl) (fun _ _ _ h => h) (Or.inl ⟨by kernel_rfl, fun _ _ => by kernel_rfl⟩) hS ?_
          refine wpAnyH_take (i := 7) (v := .int .i64 (kk : Int)) rfl (by kernel_rfl) (by kernel_rfl) (by kernel_rfl) (fun _ _ _ h => h) (Or.inl ⟨by kernel_rfl, fun _ _ => by kernel_rfl⟩) hS ?_
          refine wpAnyH_take (i := 8) (v := .slice ao kk cap) rfl (by kernel_rfl) (by kernel_rfl) (by kernel_rfl) (fun _ _ _ h => h) (Or.inl ⟨by kernel_rfl, fun wx hx => by go_simp⟩) hS ?_
          refine wpAnyH_take (i := 11) (v := .pointer (some ⟨B, 1, none⟩)) rfl (by kernel_rfl) (by kernel_rfl) (by kernel_rfl) (fun _ _ _ h => h) (Or.inl ⟨by kernel_rfl, fun wx hx => by go_simp⟩) hS ?_
          refine wpAnyH_take (i := 12) (v := .int .i64 av) rfl (by kernel_rfl) (by kernel_rfl) (by kernel_rfl) (fun _ _ _ h => h) (Or.inl ⟨by kernel_rfl, fun wx hx => by obtain ⟨hx0, hx1, hx2⟩ := hx; go_simp⟩) hS ?_
          refine wpAnyH_take (i := 13) (v := .int .u64 av) rfl (by kernel_rfl) (by kernel_rfl) (by kernel_rfl) (fun _ _ _ h => h) (Or.inl ⟨by kernel_rfl, fun wx hx => by go_simp⟩) hS ?_
          refine wpAnyH_ready (rs := [9]) (by kernel_rfl) (by simp) (AllReadyH.cons rfl (fun Kc hK => ?_) AllReadyH.nil)
          go_simp
          refine th.mono ?_
          rintro e w3 ⟨rfl, hb3⟩
          have HB3 : Hid (Below (B + 2) w1 w3) := ⟨(HB.out.drew).trans (hb3.mono hsz)⟩
          have hS3 := hSS w3 HB3.out
          go_simp
          refine hK.out _ _ hS3 (fun hS => ?_)
          clear hK hS0
          refine wpAnyH_take (i := 10) (v := .int .u64 hv) rfl (by kernel_rfl) (by kernel_rfl) (by kernel_rfl) (fun _ _ _ h => h) (Or.inl ⟨by kernel_rfl, fun wx hx => by go_simp⟩) hS ?_
          refine wpAnyH_take (i := 14) (v := .int .u64 (hv * av)) rfl (by kernel_rfl) (by kernel_rfl) (by kernel_rfl) (fun _ _ _ h => h) (Or.inl ⟨by kernel_rfl, fun wx hx => by go_simp⟩) hS ?_
          refine wpAnyH_take (i := 15) (v := .bool true) rfl (by kernel_rfl) (by kernel_rfl) (by kernel_rfl) (fun _ _ _ h => h) (Or.inl ⟨by kernel_rfl, fun wx hx => by go_simp⟩) hS ?_
          refine wpAnyH_take (i := 16) (v := .bool true) rfl (by kernel_rfl) (by kernel_rfl) (by kernel_rfl) (fun _ _ _ h => h) (Or.inl ⟨by kernel_rfl, fun _ _ => by kernel_rfl⟩) hS ?_
          refine wpAnyH_done (by kernel_rfl) ?_ _
          clear hS hS3
          go_simp
          go_wp2
          go_ret
          exact ⟨kk, rfl, HF.out, by rw [HBB.out]; exact Hb.out.trans (HB3.out.mono (by omega))⟩
        · have HF : Hid (NoE E ps (kk + 1)) := ⟨noE_step HNo.out (by rw [HEv.out, decide_eq_false (by omega)])⟩
          have dlow : decide (hv * av < 4294967296) = false := by simpa using hlow
          clear HEv
          go_wp2_with fail
          refine wp_region_held_drew (S := (fun w' => w'.cell? ⟨B, 1, none⟩ = some (.int .i64 av) ∧ w'.cell? ⟨B, 2, none⟩ = some (.int .i64 mx) ∧ (loadVar 27 ⟨B + 1, 0, none⟩).run Try.prog w' = .ok (.agg ta) w')) (by kernel_rfl) hS0 (fun hS => ?_)
          refine wpAnyH_take (i := 0) (v := .int .i64 (kk : Int)) rfl (by kernel_rfl) (by kernel_rfl) (by kernel_rfl) (fun _ _ _ h => h) (Or.inl ⟨by kernel_rfl, fun _ _ => by kernel_rfl⟩) hS ?_
          refine wpAnyH_take (i := 1) (v := .pointer (some ⟨B, 2, none⟩)) rfl (by kernel_rfl) (by kernel_rfl) (by kernel_rfl) (fun _ _ _ h => h) (Or.inl ⟨by kernel_rfl, fun wx hx => by go_simp⟩) hS ?_
          refine wpAnyH_take (i := 2) (v := .int .i64 mx) rfl (by kernel_rfl) (by kernel_rfl) (by kernel_rfl) (fun _ _ _ h => h) (Or.inl ⟨by kernel_rfl, fun wx hx => by obtain ⟨hx0, hx1, hx2⟩ := hx; go_simp⟩) hS ?_
          refine wpAnyH_take (i := 3) (v := .bool false) rfl (by kernel_rfl) (by kernel_rfl) (by kernel_rfl) (fun _ _ _ h => h) (Or.inl ⟨by kernel_rfl, fun wx hx => by go_simp⟩) hS ?_
          refine wpAnyH_take (i := 4) (v := .bool false) rfl (by kernel_rfl) (by kernel_rfl) (by kernel_rfl) (fun _ _ _ h => h) (Or.inl ⟨by kernel_rfl, fun _ _ => by kernel_rfl⟩) hS ?_
          refine wpAnyH_take (i := 5) (v := .agg ta) rfl (by kernel_rfl) (by kernel_rfl) (by kernel_rfl) (fun _ _ _ h => h) (Or.inl ⟨by kernel_rfl, fun wx hx => yld_load (x := .tmp 4) rfl (by kernel_rfl) hx.2.2⟩) hS ?_
          refine wpAnyH_take (i := 6) (v := .slice ao N cap) rfl (by kernel_rfl) (by kernel_rfl) (by kernel_rfl) (fun _ _ _ h => h) (Or.inl ⟨by kernel_rfl, fun _ _ => by kernel_rfl⟩) hS ?_
          refine wpAnyH_take (i := 7) (v := .int .i64 (kk : Int)) rfl (by kernel_rfl) (by kernel_rfl) (by kernel_rfl) (fun _ _ _ h => h) (Or.inl ⟨by kernel_rfl, fun _ _ => by kernel_rfl⟩) hS ?_
          refine wpAnyH_take (i := 8) (v := .slice ao kk cap) rfl (by kernel_rfl) (by kernel_rfl) (by kernel_rfl) (fun _ _ _ h => h) (Or.inl ⟨by kernel_rfl, fun wx hx => by go_simp⟩) hS ?_
          refine wpAnyH_take (i := 11) (v := .pointer (some ⟨B, 1, none⟩)) rfl (by kernel_rfl) (by kernel_rfl) (by kernel_rfl) (fun _ _ _ h => h) (Or.inl ⟨by kernel_rfl, fun wx hx => by go_simp⟩) hS ?_
          refine wpAnyH_take (i := 12) (v := .int .i64 av) rfl (by kernel_rfl) (by kernel_rfl) (by kernel_rfl) (fun _ _ _ h => h) (Or.inl ⟨by kernel_rfl, fun wx hx => by obtain ⟨hx0, hx1, hx2⟩ := hx; go_simp⟩) hS ?_
          refine wpAnyH_take (i := 13) (v := .int .u64 av) rfl (by kernel_rfl) (by kernel_rfl) (by kernel_rfl) (fun _ _ _ h => h) (Or.inl ⟨by kernel_rfl, fun wx hx => by go_simp⟩) hS ?_
          refine wpAnyH_ready (rs := [9]) (by kernel_rfl) (by simp) (AllReadyH.cons rfl (fun Kc hK => ?_) AllReadyH.nil)
          go_simp
          refine th.mono ?_
          rintro e w3 ⟨rfl, hb3⟩
          have HB3 : Hid (Below (B + 2) w1 w3) := ⟨(HB.out.drew).trans (hb3.mono hsz)⟩
          have hS3 := hSS w3 HB3.out
          go_simp
          refine hK.out _ _ hS3 (fun hS => ?_)
          clear hK hS0
          refine wpAnyH_take (i := 10) (v := .int .u64 hv) rfl (by kernel_rfl) (by kernel_rfl) (by kernel_rfl) (fun _ _ _ h => h) (Or.inl ⟨by kernel_rfl, fun wx hx => by go_simp⟩) hS ?_
          refine wpAnyH_take (i := 14) (v := .int .u64 (hv * av)) rfl (by kernel_rfl) (by kernel_rfl) (by kernel_rfl) (fun _ _ _ h => h) (Or.inl ⟨by kernel_rfl, fun wx hx => by go_simp⟩) hS ?_
          refine wpAnyH_take (i := 15) (v := .bool false) rfl (by kernel_rfl) (by kernel_rfl) (by kernel_rfl) (fun _ _ _ h => h) (Or.inl ⟨by kernel_rfl, fun wx hx => by go_simp⟩) hS ?_
          refine wpAnyH_take (i := 16) (v := .bool false) rfl (by kernel_rfl) (by kernel_rfl) (by kernel_rfl) (fun _ _ _ h => h) (Or.inl ⟨by kernel_rfl, fun _ _ => by kernel_rfl⟩) hS ?_
          refine wpAnyH_done (by kernel_rfl) ?_ _
          clear hS hS3
          go_simp
          go_wp2
          go_roundg (N + 1 - (kk + 1))
          case measure => omega
          case rel => exact ⟨kk + 1, by omega, by omega, by omega, by go_num, HB3, HF⟩
    · have HF : Hid (Fst E ps 0) := ⟨noE_end HNo.out (by rw [HN.out]; omega)⟩
      have hltz : ¬ (kk : Int) ≤ (N : Int) := by omega
      go_wp2_with fail
      go_ret
      exact ⟨0, rfl, HF.out, by rw [HBB.out]; exact Hb.out.trans (HB.out.mono (by omega))⟩
end
end Go.Proofs.Ytngeefipeghjiaa
