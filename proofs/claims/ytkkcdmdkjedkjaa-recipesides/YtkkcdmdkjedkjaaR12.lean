/- The law's told: the bytes of pieces. -/
import Derived.Test.YtkkcdmdkjedkjaaR11
namespace Go.Proofs.Ytkkcdmdkjedkjaa
open Go.RowKit Go.Lib

/-- The cells of a byte: its chunk's number and its place. -/
def tv (x : Nat × Nat) : List Value := [.int .i64 (x.1 : Int), .int .i64 (x.2 : Int)]
theorem eltT : Elt Try.prog 44 47 2 16 := by
  have h : ((Try.prog.info? 47).map (fun i => (i.size, i.bytes, (i.zero.map (fun z => z.cells.size))))) = some (2, 16, some 2) := by kernel_rfl
  refine ⟨Try.underlying44, ?_, by decide⟩
  cases hi : Try.prog.info? 47 with
  | none => rw [hi] at h; simp at h
  | some i =>
    rw [hi] at h
    simp at h
    obtain ⟨h1, h2, z, h3, h4⟩ := h
    exact ⟨i, z, rfl, h3, h1, h2, h4⟩
/-- The first k bytes of a piece. -/
def tk (x : Rp.Pc) (k : Nat) : List (Nat × Nat) := (List.range k).map (fun j => (x.i, x.f + j))
theorem tk_succ (x : Rp.Pc) (k : Nat) : tk x (k + 1) = tk x k ++ [(x.i, x.f + k)] := by simp [tk, List.range_succ]
theorem tld_take (ps : List Rp.Pc) {i : Nat} (h : i < ps.length) : Rp.tld (ps.take (i + 1)) = Rp.tld (ps.take i) ++ tk (ps.getD i ⟨0, 0, 0⟩) (ps.getD i ⟨0, 0, 0⟩).n := by
  rw [List.take_add_one, List.getElem?_eq_getElem h, Rp.tld_app]
  simp [List.getD, List.getElem?_eq_getElem h, Rp.tld, Rp.tl1, tk]
theorem tld_le (ps : List Rp.Pc) (i : Nat) : (Rp.tld (ps.take i)).length ≤ (Rp.tld ps).length := by
  conv => rhs; rw [← List.take_append_drop i ps, Rp.tld_app, List.length_append]
  omega
section
variable {w : World}
set_option maxHeartbeats 8000000 in
set_option maxRecDepth 100000 in
theorem told_any (v u : Value) (L : List Rf) (ps : List Rp.Pc) (h : RdR w v L) (hR : Rt L) (hu : RdE pv 3 ⟨0, 0, 0⟩ w u ps) (hps : ∀ p ∈ ps, Rp.pok (lens L) p) (hpl : ps.length ≤ 256) (htl : (Rp.tld ps).length ≤ 131072) :
    Calls Try.prog 23 #[v, u] w fun e w' => ∃ x, e = .returned (.tuple #[x, .bool true]) ∧ OwnE tv 2 47 w' w.heap.size x (Rp.tld ps) ∧ Below w.heap.size w w' := by
  have H := Hid.mk h
  have HU := Hid.mk hu
  have HR := Hid.mk hR
  have HP := Hid.mk hps
  have HT := Hid.mk (fun i hi => tld_take ps (i := i) hi)
  have HTl : Hid (∀ i, (Rp.tld (ps.take i)).length ≤ 131072) := ⟨fun i => Nat.le_trans (tld_le ps i) htl⟩
  obtain ⟨av, cv, rfl, hcv, hcm, _⟩ := h.shape
  obtain ⟨au, c, rfl, hcu, hcum, _⟩ := hu.shape
  obtain ⟨N, HN⟩ : ∃ x, Hid (L.length = x) := ⟨_, ⟨rfl⟩⟩
  have hN : N ≤ 256 := by rw [← HN.out]; exact hR.few
  obtain ⟨m, Hm⟩ : ∃ x, Hid (ps.length = x) := ⟨_, ⟨rfl⟩⟩
  rw [HN.out] at H hcv ⊢
  rw [Hm.out] at HU hcu hpl ⊢
  have HTe : Hid (ps.take m = ps) := ⟨List.take_of_length_le (by rw [Hm.out]; exact Nat.le_refl _)⟩
  clear h hu hR hps htl
  go_enter Try.func23, Try.ntmps23
  go_wp2_with fail
  go_loopg [6, 7, 8] m (fun gg s6 s7 _ wr => ∃ i : Nat, i ≤ m ∧ m - i ≤ gg ∧ s7 = .int .i64 (i : Int) ∧ Hid (OwnE tv 2 47 wr w.heap.size s6 (Rp.tld (ps.take i))) ∧ Hid (Below w.heap.size w wr))
  case atStart => exact ⟨0, Nat.zero_le _, by omega, rfl, ⟨by simpa [Rp.tld] using OwnE.nil tv 2 47 w w.heap.size⟩, ⟨Below.refl _ _⟩⟩
  case round =>
    obtain ⟨i, hi, hgg, rfl, HO, HB⟩ := hrel
    rename World => wo
    obtain ⟨a0, c0, e0, _⟩ := (HO.out.rd (0, 0)).shape
    subst e0
    obtain ⟨n0, Hn0⟩ : ∃ x, Hid ((Rp.tld (ps.take i)).length = x) := ⟨_, ⟨rfl⟩⟩
    rw [Hn0.out] at HO ⊢
    by_cases hlt : i < m
    · have hltz : (i : Int) < (m : Int) := by omega
      have hip : i < ps.length := by rw [Hm.out]; exact hlt
      obtain ⟨b, off, cap, e, hc⟩ := HU.out.at' i hip
      have hok := HP.out _ (getD_mem' (d := ⟨0, 0, 0⟩) hip)
      have HTs := Hid.mk (HT.out i hip)
      have HTl1 := Hid.mk (HTl.out (i + 1))
      rw [Hm.out] at e
      simp at e
      obtain ⟨rfl, rfl⟩ := e
      generalize ps.getD i ⟨0, 0, 0⟩ = x at hc hok HTs
      obtain ⟨hxi, hxn, hxf⟩ := hok
      rw [lens_len] at hxi
      have hl := lens_at HR.out hxi
      obtain ⟨bl, ol, cl, el, hcl⟩ := H.out.len hxi
      rw [HN.out] at el hxi
      simp at el
      obtain ⟨rfl, rfl⟩ := el
      rw [hl.1] at hcl
      have m0 := hc 0 (by decide)
      have m1 := hc 1 (by decide)
      have m2 := hc 2 (by decide)
      simp [pv] at m0 m1 m2
      have hlx := hl.2
      generalize (lens L).getD x.i 0 = lx at hcl hxf hlx
      clear hc hl
      have HM : Hid (w.cell? ⟨b, off + i * 3, none⟩ = some (.int .i64 (x.i : Int)) ∧ w.cell? ⟨b, off + i * 3 + 1, none⟩ = some (.int .i64 (x.f : Int)) ∧ w.cell? ⟨b, off + i * 3 + 2, none⟩ = some (.int .i64 (x.n : Int))) := ⟨m0, m1, m2⟩
      have HK : Hid (∀ A, Below w.heap.size w A → A.cell? ⟨b, off + i * 3, none⟩ = some (.int .i64 (x.i : Int)) ∧ A.cell? ⟨b, off + i * 3 + 1, none⟩ = some (.int .i64 (x.f : Int)) ∧ A.cell? ⟨b, off + i * 3 + 2, none⟩ = some (.int .i64 (x.n : Int))) := ⟨fun A hA => ⟨(hA.cell (World.block_lt_of_cell? _ _ m0)).trans m0, (hA.cell (World.block_lt_of_cell? _ _ m1)).trans m1, (hA.cell (World.block_lt_of_cell? _ _ m2)).trans m2⟩⟩
      clear m0 m1 m2
      obtain ⟨m0, m1, m2⟩ := HK.out wo HB.out
      have mc : wo.cell? ⟨bl, ol + x.i * 35 + 32, none⟩ = some (.int .i64 (lx : Int)) := (HB.out.cell (p := ⟨bl, ol + x.i * 35 + 32, none⟩) (World.block_lt_of_cell? _ _ hcl)).trans hcl
      have k1 : decide ((x.i : Int) < 0) = false := decide_eq_false (by omega)
      have k2 : decide ((N : Int) ≤ (x.i : Int)) = false := decide_eq_false (by omega)
      have k3 : decide ((x.f : Int) < 0) = false := decide_eq_false (by omega)
      have k4 : decide ((x.n : Int) < 1) = false := decide_eq_false (by omega)
      have k5 : decide ((lx : Int) - (x.f : Int) < (x.n : Int)) = false := decide_eq_false (by omega)
      have k6 : decide (N ≤ x.i) = false := decide_eq_false (by omega)
      have k7 : decide (x.n < 1) = false := decide_eq_false (by omega)
      have hxz : (x.i : Int) < (N : Int) := by omega
      clear hcl
      go_upto_region 5 with fail
      go_quiet (fail)
      have HBq : Hid (Below w.heap.size w (wo.drewN nq)) := ⟨below_drewN HB.out nq⟩
      have HOq : Hid (OwnE tv 2 47 (wo.drewN nq) w.heap.size (.slice a0 n0 c0) (Rp.tld (ps.take i))) := ⟨HO.out.far (Chg.ofBelow (X := []) (below_drewN (Below.refl _ _) nq)) (by simp)⟩
      obtain ⟨w1, Hw1⟩ : ∃ x, Hid (wo.drewN nq = x) := ⟨_, ⟨rfl⟩⟩
      rw [Hw1.out] at HBq HOq ⊢
      obtain ⟨PR, HPR⟩ : ∃ PR, Hid (Rp.tld (ps.take i) = PR) := ⟨_, ⟨rfl⟩⟩
      rw [HPR.out] at HOq HTs
      have HOs : Hid (OwnE tv 2 47 w1 w.heap.size (.slice a0 n0 c0) (PR ++ tk x 0)) := ⟨by simpa [tk] using HOq.out⟩
      have HLn : Hid (∀ k, k ≤ x.n → (PR ++ tk x k).length ≤ 131072) := ⟨fun k hk => by have h1 := HTl1.out; rw [HTs.out, List.length_append] at h1; rw [List.length_append]; simp [tk] at h1 ⊢; omega⟩
      have hxn2 : x.n ≤ 512 := by omega
      clear m0 m1 m2 mc k1 k2 k3 k4 k5 k6 k7 HO HB HOq
      go_wp2_with fail
      go_loopg [6, 8] x.n (fun gg2 s6 s8 wr => ∃ k : Nat, k ≤ x.n ∧ x.n - k ≤ gg2 ∧ s8 = .int .i64 (k : Int) ∧ Hid (OwnE tv 2 47 wr w.heap.size s6 (PR ++ tk x k)) ∧ Hid (Below w.heap.size w wr))
      case atStart => exact ⟨0, Nat.zero_le _, by omega, rfl, HOs, HBq⟩
      case round =>
        clear HOs HBq
        obtain ⟨k, hk, hgg2, rfl, HO, HB⟩ := hrel
        obtain ⟨a6, c6, e6, _⟩ := (HO.out.rd (0, 0)).shape
        subst e6
        have hln := HLn.out k hk
        obtain ⟨n6, Hn6⟩ : ∃ x', Hid ((PR ++ tk x k).length = x') := ⟨_, ⟨rfl⟩⟩
        rw [Hn6.out] at HO hln ⊢
        obtain ⟨m0, m1, m2⟩ := HK.out wr HB.out
        by_cases hkl : k < x.n
        · have hklz : (k : Int) < (x.n : Int) := by omega
          have hwf : IntKind.i64.wrap ((x.f : Int) + k) = (x.f : Int) + k := IntWalk.i64_in _ ⟨by omega, by omega⟩
          obtain ⟨w2, Hw2⟩ : ∃ x, Hid (wr.drew = x) := ⟨_, ⟨rfl⟩⟩
          have HB2 : Hid (Below w.heap.size w w2) := ⟨by rw [← Hw2.out]; exact ⟨HB.out.os, HB.out.tape, HB.out.output, HB.out.size, HB.out.block⟩⟩
          have HO2 : Hid (OwnE tv 2 47 w2 w.heap.size (.slice a6 n6 c6) (PR ++ tk x k)) := ⟨HO.out.far (by rw [← Hw2.out]; exact (Chg.refl [] wr).drew) (by simp)⟩
          obtain ⟨w3, Hw3⟩ : ∃ y, Hid (w2.alloc (.cells #[.int .i64 (x.i : Int), .int .i64 ((x.f : Int) + k)] 47) = y) := ⟨_, ⟨rfl⟩⟩
          have HC3 : Hid (Below w2.heap.size w2 w3) := ⟨by rw [← Hw3.out]; exact (Below.refl _ w2).alloc (Nat.le_refl _) _⟩
          have HB3 : Hid (Below w.heap.size w w3) := ⟨HB2.out.trans (HC3.out.mono HB2.out.size)⟩
          have HO3 : Hid (OwnE tv 2 47 w3 w.heap.size (.slice a6 n6 c6) (PR ++ tk x k)) := ⟨HO2.out.far (Chg.ofBelow (X := []) HC3.out) (by simp)⟩
          have HR3 : Hid (RdE tv 2 (0, 0) w3 (.slice (some ⟨w2.heap.size, 0, none⟩) 1 1) [(x.i, x.f + k)]) := ⟨by
            rw [← Hw3.out]
            have := rde_one (f := tv) (k := 2) (d := (0, 0)) w2 (x.i, x.f + k) rfl (by intro u hu; simp [tv] at hu; rcases hu with rfl | rfl <;> rfl) 47
            simpa [tv] using this⟩
          have hl1 : ((PR ++ tk x k).length + [(x.i, x.f + k)].length) * 16 ≤ 140737488355328 := by rw [Hn6.out]; simp; omega
          have hl2 : (PR ++ tk x k).length + [(x.i, x.f + k)].length ≤ maxLen := by rw [Hn6.out]; unfold maxLen; simp; omega
          have hl3 : w.heap.size ≤ w3.heap.size := HB3.out.size
          have HTk := Hid.mk (tk_succ x k)
          have hS0 : (fun w' => w'.cell? ⟨b, off + i * 3, none⟩ = some (.int .i64 (x.i : Int)) ∧ w'.cell? ⟨b, off + i * 3 + 1, none⟩ = some (.int .i64 (x.f : Int))) wr.drew := by rw [Hw2.out]; exact ⟨(HK.out w2 HB2.out).1, (HK.out w2 HB2.out).2.1⟩
          go_upto_region 10 with fail
          refine wp_region_held_drew (S := (fun w' => w'.cell? ⟨b, off + i * 3, none⟩ = some (.int .i64 (x.i : Int)) ∧ w'.cell? ⟨b, off + i * 3 + 1, none⟩ = some (.int .i64 (x.f : Int)))) (by kernel_rfl) hS0 (fun hS => ?_)
          rw [Hw2.out] at hS ⊢
          refine wpAnyH_take (i := 0) (v := .slice a6 n6 c6) rfl (by kernel_rfl) (by kernel_rfl) (by kernel_rfl) (fun _ _ _ h => h) (Or.inl ⟨by kernel_rfl, fun _ _ => by kernel_rfl⟩) hS ?_
          refine wpAnyH_take (i := 1) (v := .slice (some ⟨b, off, none⟩) m c) rfl (by kernel_rfl) (by kernel_rfl) (by kernel_rfl) (fun _ _ _ h => h) (Or.inl ⟨by kernel_rfl, fun _ _ => by kernel_rfl⟩) hS ?_
          refine wpAnyH_take (i := 2) (v := .int .i64 (i : Int)) rfl (by kernel_rfl) (by kernel_rfl) (by kernel_rfl) (fun _ _ _ h => h) (Or.inl ⟨by kernel_rfl, fun _ _ => by kernel_rfl⟩) hS ?_
          refine wpAnyH_take (i := 3) (v := .pointer (some ⟨b, off + i * 3, none⟩)) rfl (by kernel_rfl) (by kernel_rfl) (by kernel_rfl) (fun _ _ _ h => h) (Or.inl ⟨by kernel_rfl, fun wx hx => by go_simp⟩) hS ?_
          refine wpAnyH_take (i := 4) (v := .pointer (some ⟨b, off + i * 3, none⟩)) rfl (by kernel_rfl) (by kernel_rfl) (by kernel_rfl) (fun _ _ _ h => h) (Or.inl ⟨by kernel_rfl, fun wx hx => by go_simp⟩) hS ?_
          refine wpAnyH_take (i := 5) (v := .int .i64 (x.i : Int)) rfl (by kernel_rfl) (by kernel_rfl) (by kernel_rfl) (fun _ _ _ h => h) (Or.inl ⟨by kernel_rfl, fun wx hx => by obtain ⟨hx1, hx2⟩ := hx; go_simp⟩) hS ?_
          refine wpAnyH_take (i := 6) (v := .slice (some ⟨b, off, none⟩) m c) rfl (by kernel_rfl) (by kernel_rfl) (by kernel_rfl) (fun _ _ _ h => h) (Or.inl ⟨by kernel_rfl, fun _ _ => by kernel_rfl⟩) hS ?_
          refine wpAnyH_take (i := 7) (v := .int .i64 (i : Int)) rfl (by kernel_rfl) (by kernel_rfl) (by kernel_rfl) (fun _ _ _ h => h) (Or.inl ⟨by kernel_rfl, fun _ _ => by kernel_rfl⟩) hS ?_
          refine wpAnyH_take (i := 8) (v := .pointer (some ⟨b, off + i * 3, none⟩)) rfl (by kernel_rfl) (by kernel_rfl) (by kernel_rfl) (fun _ _ _ h => h) (Or.inl ⟨by kernel_rfl, fun wx hx => by go_simp⟩) hS ?_
          refine wpAnyH_take (i := 9) (v := .pointer (some ⟨b, off + i * 3 + 1, none⟩)) rfl (by kernel_rfl) (by kernel_rfl) (by kernel_rfl) (fun _ _ _ h => h) (Or.inl ⟨by kernel_rfl, fun wx hx => by go_simp⟩) hS ?_
          refine wpAnyH_take (i := 10) (v := .int .i64 (x.f : Int)) rfl (by kernel_rfl) (by kernel_rfl) (by kernel_rfl) (fun _ _ _ h => h) (Or.inl ⟨by kernel_rfl, fun wx hx => by obtain ⟨hx1, hx2⟩ := hx; go_simp⟩) hS ?_
          refine wpAnyH_take (i := 11) (v := .int .i64 (k : Int)) rfl (by kernel_rfl) (by kernel_rfl) (by kernel_rfl) (fun _ _ _ h => h) (Or.inl ⟨by kernel_rfl, fun _ _ => by kernel_rfl⟩) hS ?_
          refine wpAnyH_take (i := 12) (v := .int .i64 ((x.f : Int) + k)) rfl (by kernel_rfl) (by kernel_rfl) (by kernel_rfl) (fun _ _ _ h => h) (Or.inl ⟨by kernel_rfl, fun wx hx => by go_simp⟩) hS ?_
          refine wpAnyH_take (i := 13) (v := .agg #[.int .i64 (x.i : Int), .int .i64 ((x.f : Int) + k)]) rfl (by kernel_rfl) (by kernel_rfl) (by kernel_rfl) (fun _ _ _ h => h) (Or.inl ⟨by kernel_rfl, fun wx hx => by go_simp⟩) hS ?_
          refine wpAnyH_ready (rs := [14]) (by kernel_rfl) (by simp) (AllReadyH.cons rfl (fun Kc hK => ?_) AllReadyH.nil)
          go_simp
          rw [Hw3.out]
          refine hK.out _ _ ⟨(HK.out w3 HB3.out).1, (HK.out w3 HB3.out).2.1⟩ (fun hS => ?_)
          clear hK
          refine wpAnyH_ready (rs := [15]) (by kernel_rfl) (by simp) (AllReadyH.cons rfl (fun Kc hK => ?_) AllReadyH.nil)
          refine rdy_of (by kernel_rfl) ?_
          refine op_appE (f := tv) (d := (0, 0)) eltT (.tmp 79) (.tmp 93) rfl (by kernel_rfl) HO3.out (by kernel_rfl) HR3.out hl1 hl2 hl3 ?_
          intro v7 w7 hO7 hG7 hV7
          obtain ⟨a7, c7, e7, _⟩ := (hO7.rd (0, 0)).shape
          subst e7
          have HO7 := Hid.mk hO7
          have HB7 : Hid (Below w.heap.size w w7) := ⟨HB3.out.trans (hG7.below HB3.out.size (fun g hg => (HO3.out.lt g hg).1))⟩
          obtain ⟨n7, Hn7⟩ : ∃ y, Hid ((PR ++ tk x k ++ [(x.i, x.f + k)]).length = y) := ⟨_, ⟨rfl⟩⟩
          rw [Hn7.out] at HO7 ⊢
          clear hO7 hG7 hV7
          refine hK.out _ _ ⟨(HK.out w7 HB7.out).1, (HK.out w7 HB7.out).2.1⟩ (fun hS => ?_)
          clear hK
          refine wpAnyH_take (i := 16) (v := .slice a7 n7 c7) rfl (by kernel_rfl) (by kernel_rfl) (by kernel_rfl) (fun _ _ _ h => h) (Or.inl ⟨by kernel_rfl, fun _ _ => by kernel_rfl⟩) hS ?_
          refine wpAnyH_done (by kernel_rfl) ?_ _
          clear hS hS0 m0 m1 m2
          go_simp
          go_wp2_with fail
          go_roundg (x.n - (k + 1))
          case measure => omega
          case rel => exact ⟨k + 1, by omega, by omega, by go_num, ⟨by rw [HTk.out, ← List.append_assoc]; exact HO7.out⟩, HB7⟩
        · obtain rfl : k = x.n := by omega
          go_wp2_with fail
          go_roundg (m - (i + 1))
          case measure => omega
          case rel => exact ⟨i + 1, by omega, by omega, by go_num, ⟨by rw [HTs.out]; exact HO.out⟩, HB⟩
    · obtain rfl : m = i := by omega
      rw [HTe.out] at HO
      go_wp2_with fail
      go_ret2
      exact ⟨_, rfl, HO.out, HB.out⟩
end
end Go.Proofs.Ytkkcdmdkjedkjaa
