/- Package disk's Crash. -/
import Derived.Test.YtmcikhdfpmkpnaaD13
namespace Go.Proofs.Ytmcikhdfpmkpnaa
open Go.RowKit Go.Maps Go.Sort Go.Shelf

section
variable {md : Region.Mode} {ops : Array Oper} {Q : Exit → Act → World → Prop} {S : World → Prop} {fuel : Nat} {listed : Array Bool} {a : Act} {w : World} {i : Nat} {o : Oper} {rs : List Nat}
theorem readyH_load_page (ho : ops[i]? = some o) (hg : o.guard = none) (x : Operand) (hop : o.op = .load 68 x) (g off : Nat) (l : List Int) (hx : a.eval x = .pointer (some ⟨g, off, none⟩)) (hl : l.length = 128) (hc : ∀ j v, (pc l)[j]? = some v → w.cell? ⟨g, off + j, none⟩ = some v) (hS : S w)
    (h : S w → wpAnyH Try.prog md ops Q S fuel (listed.setIfInBounds i true) (a.put o.dst (.agg (pa l))) w) (hs : AllReadyH Try.prog md ops Q S fuel listed a w rs) : AllReadyH Try.prog md ops Q S fuel listed a w (i :: rs) :=
  readyH_plain ho hg (fun _ hK => wp_load_page x hop hx hl hc (hK _ _ hS h)) hs
end

set_option maxHeartbeats 1000000 in
set_option maxRecDepth 100000 in
theorem crash_gen {w : World} {p g bm base : Nat} {d : Dk} (h : At w p g bm base d) (kv : Value) (ks : List Bool) (torn at' : Int) (hk : Ks w kv ks) (hno : 0 < ks.length → ∀ q, kv.ownBlock = some q → q ≠ g ∧ q ≠ bm) :
    Calls Try.prog 17 #[.pointer (some ⟨p, 0, none⟩), .agg #[kv, .int .i64 torn, .int .i64 at']] w fun e w' => e = .returned (.tuple #[]) ∧ At w' p g bm base (crD d ⟨ks, torn, at'⟩) ∧ Chg [p, g, bm] w w' := by
  obtain ⟨c, Hc⟩ : ∃ c : Cr, Hid (c = ⟨ks, torn, at'⟩) := ⟨_, ⟨rfl⟩⟩
  rw [← Hc.out]
  have hb0 : Below w.heap.size w (w.alloc (.cells #[kv, .int .i64 torn, .int .i64 at'] 40)) := (Below.refl _ w).alloc (Nat.le_refl _) _
  have f0 : (w.alloc (.cells #[kv, .int .i64 torn, .int .i64 at'] 40)).heap[w.heap.size]? = some (.cells #[kv, .int .i64 torn, .int .i64 at'] 40 (0, 0)) := heap_alloc_new w _
  have t1 := dirty_any (h.below hb0)
  have HA0 : Hid (At (w.alloc (.cells #[kv, .int .i64 torn, .int .i64 at'] 40)) p g bm base d) := ⟨h.below hb0⟩
  obtain ⟨l1, l2, l3⟩ := h.lt
  have HOK : Hid (∀ s ∈ d.S, OkS s) := ⟨by obtain ⟨_, _, _, _, h⟩ := h; exact h.ok⟩
  have hlen : d.S.length ≤ 4096 := by obtain ⟨_, _, _, _, h⟩ := h; exact h.len
  have hdl := dl_le d.S
  obtain ⟨N, hN⟩ : ∃ N, d.S.length = N := ⟨_, rfl⟩
  have HK : Hid (Ks w kv ks ∧ (0 < ks.length → ∀ q, kv.ownBlock = some q → q ≠ g ∧ q ≠ bm)) := ⟨hk, hno⟩
  obtain ⟨M, hM⟩ : ∃ M, (dl d.S).length = M := ⟨_, rfl⟩
  rw [hN] at hlen hdl
  rw [hM] at hdl
  clear h hk hno
  go_enter Try.func17, Try.ntmps17
  go_wp2_with (go_at_call 14; refine t1.mono ?_; rintro e w1 ⟨v, rfl, hv, hb1⟩; clear t1; obtain ⟨ao, cp, rfl, hcell⟩ := hv.shape; clear hv)
  have hdL : (dlI d.S).length = M := by rw [← hM]; simp [dlI]
  rw [hdL] at hcell ⊢
  have HC : Hid (∀ j, j < M → ∃ q, ao = some ⟨q, 0, none⟩ ∧ w.heap.size < q ∧ w1.cell? ⟨q, j, none⟩ = some (.int .i64 (((dl d.S).getD j 0 : Nat) : Int))) := ⟨fun j hj => by
    obtain ⟨q, e1, e2, e3⟩ := hcell j hj
    rw [dlI_get (by omega)] at e3
    exact ⟨q, e1, by simp at e2; omega, e3⟩⟩
  have HA1 : Hid (At w1 p g bm base (⟨crashJ c d.S 0, d.trip, d.down, d.life⟩ : Dk)) := ⟨HA0.out.below hb1⟩
  have HB1 : Hid (Below w.heap.size w w1) := ⟨hb0.trans (hb1.mono (by simp))⟩
  have HF1 : Hid (w1.heap[w.heap.size]? = some (.cells #[kv, .int .i64 torn, .int .i64 at'] 40 (0, 0))) := ⟨(hb1.block _ (by simp)).trans f0⟩
  clear hcell HA0 hb0 f0 hb1
  go_loopg [4, 5, 11] M (fun gg _ _ s11 wr => ∃ kk : Nat, kk ≤ M ∧ M - kk ≤ gg ∧ s11 = .int .i64 (kk : Int) ∧ Hid (At wr p g bm base (⟨crashJ c d.S kk, d.trip, d.down, d.life⟩ : Dk)) ∧ Hid (Chg [g, bm] w1 wr))
  case atStart => exact ⟨0, Nat.zero_le _, by omega, rfl, HA1, ⟨Chg.refl _ _⟩⟩
  case round =>
    clear HA1
    obtain ⟨kk, hkk, hgg, rfl, HA, HCh⟩ := hrel
    by_cases hlt : kk < M
    · have hltz : (kk : Int) < (M : Int) := by omega
      obtain ⟨q, rfl, hql, hq1⟩ := HC.out kk hlt
      obtain ⟨i, Hi⟩ : ∃ i, Hid (i = (dl d.S).getD kk 0) := ⟨_, ⟨rfl⟩⟩
      rw [← Hi.out] at hq1
      obtain ⟨hi, s, l, hsec, hsecJ, hPs, hPl, hnext⟩ := crash_round c d.S HOK.out (j := kk) (by omega) Hi.out
      have HX : Hid (∃ cap tc n D, AtX wr p g bm base cap tc n D (⟨crashJ c d.S kk, d.trip, d.down, d.life⟩ : Dk)) := ⟨HA.out⟩
      obtain ⟨cap, tc, n, D, hX⟩ := HX.out
      obtain ⟨c0, c1, _⟩ := hX.cells
      obtain ⟨n1, n2, n3⟩ := hX.ne
      have hcl : (crashJ c d.S kk).length = N := by rw [crashJ_length, hN]
      have hiz : (i : Int) < (N : Int) := by omega
      have hiJ : i < (crashJ c d.S kk).length := by omega
      have hlook := (hX.look hiJ).2
      have hrc := hX.rows.cells (i := i) (by simpa using hiJ)
      simp only at hlook hrc c0
      rw [map_fst_getD hiJ, hsecJ] at hrc
      rw [hsecJ] at hlook
      simp only [Option.getD_some] at hlook
      rw [hcl] at c0
      have hwl : w.heap.size < w1.heap.size := (Array.getElem?_eq_some_iff.1 HF1.out).1
      have hq : wr.cell? ⟨q, kk, none⟩ = some (.int .i64 (i : Int)) := (HCh.out.cell (World.block_lt_of_cell? _ _ hq1) (by simp; omega)).trans hq1
      have hfr : wr.heap[w.heap.size]? = some (.cells #[kv, .int .i64 torn, .int .i64 at'] 40 (0, 0)) := (HCh.out.block _ hwl (by simp; omega)).trans HF1.out
      have b0 : wr.cell? ⟨w.heap.size, 0, none⟩ = some kv := by rw [cell_of_row _ _ _ _ _ _ hfr]; rfl
      have b1 : wr.cell? ⟨w.heap.size, 1, none⟩ = some (.int .i64 torn) := by rw [cell_of_row _ _ _ _ _ _ hfr]; rfl
      have b2 : wr.cell? ⟨w.heap.size, 2, none⟩ = some (.int .i64 at') := by rw [cell_of_row _ _ _ _ _ _ hfr]; rfl
      have hkr : Ks wr.drew kv ks := by
        obtain ⟨⟨ao, cp, rfl, hkc⟩, hno⟩ := HK.out
        refine ⟨ao, cp, rfl, fun j hj => ?_⟩
        obtain ⟨zb, zo, e1, e2⟩ := hkc j hj
        have zl := World.block_lt_of_cell? _ _ e2
        have z1 := (HB1.out.cell zl).trans e2
        have hz := hno (by omega) zb (by rw [e1]; rfl)
        exact ⟨zb, zo, e1, (HCh.out.cell (World.block_lt_of_cell? _ _ z1) (by simp; exact hz)).trans z1⟩
      have t3 := outlived_any wr.drew kv ks torn at' kk s l hPs hPl hkr
      rw [← Hc.out] at t3
      have hPo : Pg (outl c kk s l) := pg_outl hPs hPl
      obtain ⟨ol, Hol⟩ : ∃ ol, Hid (ol = outl c kk s l) := ⟨_, ⟨rfl⟩⟩
      rw [← Hol.out] at t3 hPo
      have hpz : (pa ol).size = 128 := by rw [pa_size, hPo.1]
      have hS0 : wr.drew.cell? ⟨p, 0, none⟩ = some (.slice (some ⟨g, 0, none⟩) N cap) ∧ wr.drew.cell? ⟨p, 1, none⟩ = some (.map (some bm)) ∧ (wr.drew.cell? ⟨w.heap.size, 0, none⟩ = some kv ∧ wr.drew.cell? ⟨w.heap.size, 1, none⟩ = some (.int .i64 torn) ∧ wr.drew.cell? ⟨w.heap.size, 2, none⟩ = some (.int .i64 at')) ∧ (Instr.lookup 61 (.map (some bm)) (.int .i64 (i : Int)) false).run Try.prog wr.drew = .ok (.agg (pa l)) wr.drew := ⟨c0, c1, ⟨b0, b1, b2⟩, (hX.kept (w' := wr.drew) rfl rfl rfl).look hiJ |>.2 |> fun q => by rw [hsecJ] at q; exact q⟩
      go_wp2
      refine wp_region_held_drew (S := fun w' => w'.cell? ⟨p, 0, none⟩ = some (.slice (some ⟨g, 0, none⟩) N cap) ∧ w'.cell? ⟨p, 1, none⟩ = some (.map (some bm)) ∧ (w'.cell? ⟨w.heap.size, 0, none⟩ = some kv ∧ w'.cell? ⟨w.heap.size, 1, none⟩ = some (.int .i64 torn) ∧ w'.cell? ⟨w.heap.size, 2, none⟩ = some (.int .i64 at')) ∧ (Instr.lookup 61 (.map (some bm)) (.int .i64 (i : Int)) false).run Try.prog w' = .ok (.agg (pa l)) w') (by kernel_rfl) hS0 (fun hS => ?_)
      refine wpAnyH_take (i := 0) (v := .pointer (some ⟨p, 0, none⟩)) rfl (by kernel_rfl) (by kernel_rfl) (by kernel_rfl) (fun _ _ _ h => h) (Or.inl ⟨by kernel_rfl, fun _ _ => by kernel_rfl⟩) hS ?_
      refine wpAnyH_take (i := 1) (v := .pointer (some ⟨p, 0, none⟩)) rfl (by kernel_rfl) (by kernel_rfl) (by kernel_rfl) (fun _ _ _ h => h) (Or.inl ⟨by kernel_rfl, fun wx _ => by go_simp⟩) hS ?_
      refine wpAnyH_take (i := 2) (v := .pointer (some ⟨p, 0, none⟩)) rfl (by kernel_rfl) (by kernel_rfl) (by kernel_rfl) (fun _ _ _ h => h) (Or.inl ⟨by kernel_rfl, fun wx _ => by go_simp⟩) hS ?_
      refine wpAnyH_take (i := 3) (v := .slice (some ⟨g, 0, none⟩) N cap) rfl (by kernel_rfl) (by kernel_rfl) (by kernel_rfl) (fun _ _ _ h => h) (Or.inl ⟨by kernel_rfl, fun wx hx => by obtain ⟨hx0, hx1, ⟨hx2, hx3, hx4⟩, hx5⟩ := hx; go_simp⟩) hS ?_
      refine wpAnyH_take (i := 4) (v := .int .i64 (i : Int)) rfl (by kernel_rfl) (by kernel_rfl) (by kernel_rfl) (fun _ _ _ h => h) (Or.inl ⟨by kernel_rfl, fun _ _ => by kernel_rfl⟩) hS ?_
      refine wpAnyH_take (i := 5) (v := .agg #[kv, .int .i64 torn, .int .i64 at']) rfl (by kernel_rfl) (by kernel_rfl) (by kernel_rfl) (fun _ _ _ h => h) (Or.inl ⟨by kernel_rfl, fun wx hx => by obtain ⟨hx0, hx1, ⟨hx2, hx3, hx4⟩, hx5⟩ := hx; go_simp⟩) hS ?_
      refine wpAnyH_take (i := 6) (v := .int .i64 (kk : Int)) rfl (by kernel_rfl) (by kernel_rfl) (by kernel_rfl) (fun _ _ _ h => h) (Or.inl ⟨by kernel_rfl, fun _ _ => by kernel_rfl⟩) hS ?_
      refine wpAnyH_take (i := 7) (v := .pointer (some ⟨p, 0, none⟩)) rfl (by kernel_rfl) (by kernel_rfl) (by kernel_rfl) (fun _ _ _ h => h) (Or.inl ⟨by kernel_rfl, fun _ _ => by kernel_rfl⟩) hS ?_
      refine wpAnyH_take (i := 8) (v := .pointer (some ⟨p, 0, none⟩)) rfl (by kernel_rfl) (by kernel_rfl) (by kernel_rfl) (fun _ _ _ h => h) (Or.inl ⟨by kernel_rfl, fun wx _ => by go_simp⟩) hS ?_
      refine wpAnyH_take (i := 9) (v := .pointer (some ⟨p, 0, none⟩)) rfl (by kernel_rfl) (by kernel_rfl) (by kernel_rfl) (fun _ _ _ h => h) (Or.inl ⟨by kernel_rfl, fun wx _ => by go_simp⟩) hS ?_
      refine wpAnyH_take (i := 10) (v := .slice (some ⟨g, 0, none⟩) N cap) rfl (by kernel_rfl) (by kernel_rfl) (by kernel_rfl) (fun _ _ _ h => h) (Or.inl ⟨by kernel_rfl, fun wx hx => by obtain ⟨hx0, hx1, ⟨hx2, hx3, hx4⟩, hx5⟩ := hx; go_simp⟩) hS ?_
      refine wpAnyH_take (i := 11) (v := .int .i64 (i : Int)) rfl (by kernel_rfl) (by kernel_rfl) (by kernel_rfl) (fun _ _ _ h => h) (Or.inl ⟨by kernel_rfl, fun _ _ => by kernel_rfl⟩) hS ?_
      refine wpAnyH_take (i := 12) (v := .pointer (some ⟨g, i * 128, none⟩)) rfl (by kernel_rfl) (by kernel_rfl) (by kernel_rfl) (fun _ _ _ h => h) (Or.inl ⟨by kernel_rfl, fun wx _ => by go_simp⟩) hS ?_
      refine wpAnyH_take (i := 14) (v := .pointer (some ⟨p, 0, none⟩)) rfl (by kernel_rfl) (by kernel_rfl) (by kernel_rfl) (fun _ _ _ h => h) (Or.inl ⟨by kernel_rfl, fun _ _ => by kernel_rfl⟩) hS ?_
      refine wpAnyH_take (i := 15) (v := .pointer (some ⟨p, 0, none⟩)) rfl (by kernel_rfl) (by kernel_rfl) (by kernel_rfl) (fun _ _ _ h => h) (Or.inl ⟨by kernel_rfl, fun wx _ => by go_simp⟩) hS ?_
      refine wpAnyH_take (i := 16) (v := .pointer (some ⟨p, 1, none⟩)) rfl (by kernel_rfl) (by kernel_rfl) (by kernel_rfl) (fun _ _ _ h => h) (Or.inl ⟨by kernel_rfl, fun wx _ => by go_simp⟩) hS ?_
      refine wpAnyH_take (i := 17) (v := .map (some bm)) rfl (by kernel_rfl) (by kernel_rfl) (by kernel_rfl) (fun _ _ _ h => h) (Or.inl ⟨by kernel_rfl, fun wx hx => by obtain ⟨hx0, hx1, ⟨hx2, hx3, hx4⟩, hx5⟩ := hx; go_simp⟩) hS ?_
      refine wpAnyH_take (i := 18) (v := .int .i64 (i : Int)) rfl (by kernel_rfl) (by kernel_rfl) (by kernel_rfl) (fun _ _ _ h => h) (Or.inl ⟨by kernel_rfl, fun _ _ => by kernel_rfl⟩) hS ?_
      refine wpAnyH_take (i := 19) (v := .agg (pa l)) rfl (by kernel_rfl) (by kernel_rfl) (by kernel_rfl) (fun _ _ _ h => h) (Or.inl ⟨by kernel_rfl, fun wx hx => by obtain ⟨hx0, hx1, ⟨hx2, hx3, hx4⟩, hx5⟩ := hx; go_simp⟩) hS ?_
      refine wpAnyH_ready (rs := [13]) (by kernel_rfl) (by simp) (readyH_load_page (o := { dst := some 29, op := Op.load 68 (Operand.tmp 28), type := 68, pos := "disk.go:112", after := #[{ on := 12, ground := Ground.data }], guard := none }) (by kernel_rfl) rfl (.tmp 28) rfl g (i * 128) s (by kernel_rfl) hPs.1 hrc hS0 (fun hS => ?_) AllReadyH.nil)
      refine wpAnyH_ready (rs := [20]) (by kernel_rfl) (by simp) (AllReadyH.cons rfl (fun Kc hK => ?_) AllReadyH.nil)
      go_simp
      refine t3.mono ?_
      rintro e w2 ⟨rfl, hb2⟩
      have hX2 := (hX.kept (w' := wr.drew) rfl rfl rfl).below hb2
      have hlk : ∀ a u, wr.drew.cell? a = some u → w2.cell? a = some u := fun a u hu => (hb2.cell (World.block_lt_of_cell? _ _ hu)).trans hu
      have hS2 : w2.cell? ⟨p, 0, none⟩ = some (.slice (some ⟨g, 0, none⟩) N cap) ∧ w2.cell? ⟨p, 1, none⟩ = some (.map (some bm)) ∧ (w2.cell? ⟨w.heap.size, 0, none⟩ = some kv ∧ w2.cell? ⟨w.heap.size, 1, none⟩ = some (.int .i64 torn) ∧ w2.cell? ⟨w.heap.size, 2, none⟩ = some (.int .i64 at')) ∧ (Instr.lookup 61 (.map (some bm)) (.int .i64 (i : Int)) false).run Try.prog w2 = .ok (.agg (pa l)) w2 := ⟨hlk _ _ c0, hlk _ _ c1, ⟨hlk _ _ b0, hlk _ _ b1, hlk _ _ b2⟩, by have q := (hX2.look hiJ).2; simp only at q; rw [hsecJ] at q; exact q⟩
      have hc2 : Chg [g, bm] w1 w2 := (HCh.out.drew).trans (Chg.ofBelow hb2)
      obtain ⟨cur, hcur⟩ := hX2.cur
      obtain ⟨hle, hX3⟩ := hX2.page hiJ hPo hcur
      have hst := run_storeCells_page (P := Try.prog) (w := w2) hcur hle
      obtain ⟨v3, Hv3⟩ : ∃ v3, Hid (v3 = w2.setRow g (cur.toList.take (i * 128) ++ pc ol ++ cur.toList.drop (i * 128 + (pc ol).length)).toArray) := ⟨_, ⟨rfl⟩⟩
      rw [← Hv3.out] at hst hX3
      have hc3 : Chg [g, bm] w1 v3 := by rw [Hv3.out]; exact hc2.setRow (.inl (by simp)) _
      have hgn : g ≠ w.heap.size := by omega
      have hlk3 : ∀ a u, a.block ≠ g → w2.cell? a = some u → v3.cell? a = some u := fun a u ha hu => by
        rw [Hv3.out]
        exact (World.cell?_of_block (setRow_other _ _ _ _ ha)).trans hu
      have hS3 : v3.cell? ⟨p, 0, none⟩ = some (.slice (some ⟨g, 0, none⟩) N cap) ∧ v3.cell? ⟨p, 1, none⟩ = some (.map (some bm)) ∧ (v3.cell? ⟨w.heap.size, 0, none⟩ = some kv ∧ v3.cell? ⟨w.heap.size, 1, none⟩ = some (.int .i64 torn) ∧ v3.cell? ⟨w.heap.size, 2, none⟩ = some (.int .i64 at')) ∧ (Instr.lookup 61 (.map (some bm)) (.int .i64 (i : Int)) false).run Try.prog v3 = .ok (.agg (pa l)) v3 := ⟨hlk3 _ _ n1 hS2.1, hlk3 _ _ n1 hS2.2.1, ⟨hlk3 _ _ (Ne.symm hgn) hS2.2.2.1.1, hlk3 _ _ (Ne.symm hgn) hS2.2.2.1.2.1, hlk3 _ _ (Ne.symm hgn) hS2.2.2.1.2.2⟩, by
        have q := (hX3.look (i := i) (by simpa using hiJ)).2
        simp only at q
        rw [sec_set hiJ, if_pos rfl, hsecJ] at q
        exact q⟩
      obtain ⟨v4, hdel, hc4, n', D', hX4⟩ := hX3.delete (i := i) (by simpa using hiJ) 0
      have HR : Hid (At v4 p g bm base (⟨crashJ c d.S (kk + 1), d.trip, d.down, d.life⟩ : Dk) ∧ Chg [g, bm] w1 v4) := ⟨by
        refine ⟨?_, hc3.trans (hc4.mono (fun x hx => .inl (by simp at hx; simp [hx])))⟩
        have q := hX4.at
        simp only at q
        rw [sec_set hiJ, if_pos rfl, List.set_set] at q
        rw [hnext, ← Hol.out]
        exact q⟩
      have d1 := hS3.2.1
      refine hK.out _ _ hS2 (fun hS => ?_)
      clear hK t3 hX2 hX3 hX4 hX hc2 hc3 hc4 hb2 hcur hle hnext hsecJ hsec hlook hrc hkr hfr HA HCh HX hlk hlk3
      refine wpAnyH_take (i := 21) (v := .pointer (some ⟨g, i * 128, none⟩)) rfl (by kernel_rfl) (by kernel_rfl) (by kernel_rfl) (fun _ _ _ h => h) (Or.inl ⟨by kernel_rfl, fun wx _ => by go_simp⟩) hS ?_
      refine wpAnyH_ready (rs := [22]) (by kernel_rfl) (by simp) (AllReadyH.cons rfl (fun Kc hK => ?_) AllReadyH.nil)
      go_simp
      refine hK.out _ _ hS3 (fun hS => ?_)
      clear hK hS hst hS0 hS2 hS3
      refine wpAnyH_done (by kernel_rfl) ?_ _
      go_wp2
      go_roundg (M - (kk + 1))
      case measure => omega
      case rel => exact ⟨kk + 1, by omega, by omega, by go_num, ⟨HR.out.1⟩, ⟨HR.out.2⟩⟩
    · obtain rfl : kk = M := by omega
      obtain ⟨cap, tc, n, D, hX⟩ := HA.out
      obtain ⟨_, _, c2, c3, c4⟩ := hX.cells
      have f2 := hX.frozen 2
      have f3 := hX.frozen 3
      have f4 := hX.frozen 4
      simp only at c3 c4
      have HR : Hid (At (((wr.setCell ⟨p, 2, none⟩ (.int .i64 0)).setCell ⟨p, 3, none⟩ (.bool false)).setCell ⟨p, 4, none⟩ (.int .i64 (wrap64 (d.life + 1)))) p g bm base (crD d c) ∧ Chg [p, g, bm] w (((wr.setCell ⟨p, 2, none⟩ (.int .i64 0)).setCell ⟨p, 3, none⟩ (.bool false)).setCell ⟨p, 4, none⟩ (.int .i64 (wrap64 (d.life + 1))))) := ⟨by
        refine ⟨?_, ((((Chg.ofBelow HB1.out).trans (HCh.out.mono (fun x hx => .inl (by simp at hx; rcases hx with h | h <;> simp [h])))).setCell (.inl (by simp)) _).setCell (.inl (by simp)) _).setCell (.inl (by simp)) _⟩
        have q := (((hX.setTrip 0 0 (fun _ => rfl) ⟨by omega, by omega⟩).setDown false 0 (fun _ => rfl)).setLife (wrap64 (d.life + 1))).at
        simp only at q
        rw [← hM, crashJ_all] at q
        exact q⟩
      clear hX HA HCh
      go_wp2
      go_returns
      exact ⟨rfl, HR.out⟩
theorem crash_any {w : World} {p g bm base : Nat} {d : Dk} (h : At w p g bm base d) (kv : Value) (ks : List Bool) (torn at' : Int) (hk : Ks w kv ks) (hno : ∀ q, kv.ownBlock = some q → q ≠ g ∧ q ≠ bm) :
    Calls Try.prog 17 #[.pointer (some ⟨p, 0, none⟩), .agg #[kv, .int .i64 torn, .int .i64 at']] w fun e w' => e = .returned (.tuple #[]) ∧ At w' p g bm base (crD d ⟨ks, torn, at'⟩) ∧ Chg [p, g, bm] w w' := crash_gen h kv ks torn at' hk (fun _ => hno)
end Go.Proofs.Ytmcikhdfpmkpnaa
