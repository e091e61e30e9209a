/- Package disk's settle, walked. -/
import Derived.Test.YtmcikhdfpmkpnaaD7
namespace Go.Proofs.Ytmcikhdfpmkpnaa
open Go.RowKit Go.Maps Go.Sort Go.Shelf

theorem Chg.ofGrown {w w' : World} {r : Option Nat} (h : w.grownBy w' r) {X : List Nat} (hx : ∀ k, r = some k → k ∈ X) : Chg X w w' := ⟨h.os, h.tape, h.output, h.size, fun k hk hn => h.block k hk (fun e => hn (hx k e.symm))⟩
theorem Chg.toGrown {w w' : World} {g : Nat} (h : Chg [g] w w') : w.grownBy w' (some g) := ⟨h.os, h.tape, h.output, h.size, fun k hk hn => h.block k hk (fun e => hn (by simp at e; rw [e]))⟩
theorem Chg.toGrown0 {w w' : World} (h : Chg [] w w') (r : Option Nat) : w.grownBy w' r := ⟨h.os, h.tape, h.output, h.size, fun k hk _ => h.block k hk (by simp)⟩

def flD (d : Dk) : Dk := { d with S := flush d.S }

set_option maxHeartbeats 4000000 in
set_option maxRecDepth 100000 in
theorem settle_any {w : World} {p g bm base : Nat} {d : Dk} (h : At w p g bm base d) :
    Calls Try.prog 38 #[.pointer (some ⟨p, 0, none⟩)] w fun e w' => e = .returned (.tuple #[]) ∧ At w' p g bm base (flD d) ∧ Chg [g, bm] w w' := by
  obtain ⟨cap, tc, n, D, h⟩ := h
  obtain ⟨c0, c1, _⟩ := h.cells
  obtain ⟨l1, l2, l3⟩ := h.lt
  obtain ⟨n1, n2, n3⟩ := h.ne
  have hown := h.map
  have HX : Hid (AtX w p g bm base cap tc n D d) := ⟨h⟩
  have HS0 : Hid (pgs d.S (Maps.has D) = d.S.map (·.1)) := ⟨pgs_start _ _ (fun i hi hd => by rw [h.drt.hasN hi]; exact hd)⟩
  have hlen := h.len
  obtain ⟨N, hN⟩ : ∃ N, d.S.length = N := ⟨_, rfl⟩
  rw [hN] at c0 hlen
  clear h
  go_enter Try.func38, Try.ntmps38
  go_wp2_with (first
    | (at_range; refine wpList_range_own _ rfl _ 61 rfl 3 68 (int_keyed Try.underlying3) Try.underlying61 _ bm n _ rfl hown ?_; intro w0 hrg0 hg0 hs0)
    | go_in)
  clear hown
  have HR0 : Hid (Rows w0 g cap 68 (pgs d.S (Maps.has D)) ∧ Chg [g] w w0) := ⟨by rw [HS0.out]; exact HX.out.rows.kept (hg0.block g l2 (by simp)), Chg.ofGrown hg0 (fun k hk => by cases hk)⟩
  go_frame
  go_loopw [2, 3] (fun _ _ wr => ∃ (left : Lit → Bool) (cnt : Nat), wr.ranges Try.prog 3 self bm w.heap.size n D left cnt ∧ Hid (Rows wr g cap 68 (pgs d.S left) ∧ Chg [g] w wr))
    (fun _ _ wr => wr.rangeLeft bm w.heap.size)
  case atStart => exact ⟨_, _, hrg0, HR0⟩
  case round =>
    clear hrg0 hg0 hs0 HR0
    obtain ⟨left, cnt, hrg, HR⟩ := hrel
    go_wp2_with (first
      | (at_next; refine wpList_next_ranges _ rfl _ rfl 3 (int_keyed Try.underlying3) self (Value.int .i64) (fun v : Value => v) (fun key kl hkey => by obtain ⟨x, rfl, _⟩ := Maps.keyOf_int_inv Try.underlying3 hkey; exact ⟨x, rfl⟩) (fun v y _ => ⟨v, rfl⟩) bm w.heap.size n D left cnt rfl hrg ?_ ?_)
      | go_in)
    · intro _ hl0
      have hn1 : p ∉ [g] := by simp [n1]
      have d1 : wr.cell? ⟨p, 1, none⟩ = some (.map (some bm)) := (HR.out.2.cell l1 hn1).trans c1
      obtain ⟨w2, hclr, hown2, hturn⟩ := own_clear (ty := 0) Try.underlying61 hrg.owns
      have HR2 : Hid (At w2 p g bm base (flD d) ∧ Chg [g, bm] w w2) := ⟨by
        have hc2 := Chg.ofMap hturn
        have hl1 : p < wr.heap.size := Nat.lt_of_lt_of_le l1 HR.out.2.size
        have hl2 : g < wr.heap.size := HR.out.1.lt
        refine ⟨⟨cap, tc, 0, .map [], ?_, ?_, hown2, Dirt.empty (fun i hi => ?_), ok_flush HX.out.ok, ?_, HX.out.trip, HX.out.rng, HX.out.bp⟩, (HR.out.2.mono (fun x hx => .inl (by simp at hx; simp [hx]))).trans (hc2.mono (fun x hx => .inl (by simp at hx; simp [hx])))⟩
        · rw [hc2.block p hl1 (by simp [n2]), HR.out.2.block p l1 hn1]
          have e : (flD d).S.length = d.S.length := by simp [flD, flush]
          rw [e]; exact HX.out.row
        · show Rows w2 g cap 68 ((flush d.S).map (·.1))
          rw [← pgs_end d.S left hl0]
          exact HR.out.1.kept (hc2.block g hl2 (by simp [n3]))
        · have hi' : i < d.S.length := by simpa [flD, flush] using hi
          show dirt (flush d.S) i = false
          unfold dirt
          rw [sec_flush hi']; rfl
        · show (flush d.S).length ≤ 4096
          simp only [flush, List.length_map]; omega⟩
      clear hown2 hturn hrg
      go_wp2
      go_returns
      exact ⟨rfl, HR2.out⟩
    · intro x c kl y y2 w1 cnt1 hkey hlk hRv hat hrg1 hlt hg1 hs1 hen
      obtain ⟨x', ex, rfl, _⟩ := Maps.keyOf_int_inv Try.underlying3 hkey
      simp only [Value.int.injEq, true_and] at ex
      subst ex
      simp only [self, Option.some.injEq, Prod.mk.injEq] at hRv
      obtain ⟨rfl, rfl⟩ := hRv
      have hhas : Maps.has D (.int .i64 x) = true := Maps.has_true_of_atKey hat
      rw [HX.out.drt.has x] at hhas
      simp only [Bool.and_eq_true, decide_eq_true_eq] at hhas
      obtain ⟨⟨hx0, hx1⟩, hxd⟩ := hhas
      obtain ⟨i, rfl⟩ : ∃ i : Nat, x = i := ⟨x.toNat, by omega⟩
      have hi : i < d.S.length := by omega
      obtain ⟨l, hl⟩ : ∃ l, (sec d.S i).2 = some l := by
        unfold dirt at hxd
        exact Option.isSome_iff_exists.1 (by simpa using hxd)
      have hc := (hat (.held c)).symm.trans (HX.out.drt.val i l hi hl _)
      simp only [DataW.held.injEq] at hc
      subst hc
      have hPg : Pg l := (ok_sec HX.out.ok i).2 l hl
      have hpa : (Try.prog.info? 68).map (·.size) = some (pa l).size := by rw [pa_size, hPg.1]; exact info68
      have hiz : (i : Int) < (N : Int) := by omega
      have hi0 : (0 : Int) ≤ (i : Int) := by omega
      have hmeas : cnt1 < wr.rangeLeft bm w.heap.size := by rw [hrg.left_eq]; exact hlt
      have hrn : w.heap.size < wr.heap.size := hrg.lt
      have hR1 : Rows w1 g cap 68 (pgs d.S left) := HR.out.1.kept (hg1.block g HR.out.1.lt (by simp; omega))
      have hc1 : Chg [g] w w1 := HR.out.2.thenNew (Chg.ofGrown (X := [w.heap.size]) hg1 (fun k hk => by cases hk; simp)) (fun k hk => by simp at hk; exact .inr (by omega))
      obtain ⟨v1, Hv1⟩ : ∃ v1, Hid (v1 = (w1.alloc (.cells Try.zeroCells68 68)).setRow w1.heap.size (pa l)) := ⟨_, ⟨rfl⟩⟩
      have hgl1 : g < w1.heap.size := hR1.lt
      have hb1 : Below w1.heap.size w1 v1 := by rw [Hv1.out]; exact below_setRow' ((Below.refl _ w1).alloc (Nat.le_refl _) _) (Nat.le_refl _) _
      have hvar : v1.heap[w1.heap.size]? = some (.cells (pa l) 68 (0, 0)) := by rw [Hv1.out]; exact setRow_heap _ _ _ _ 68 (0, 0) (heap_alloc_new w1 _)
      have hR2 : Rows v1 g cap 68 (pgs d.S left) := hR1.kept (hb1.block g hgl1)
      have hc2 : Chg [g] w v1 := hc1.trans (Chg.ofBelow hb1)
      have hrg2 : v1.ranges Try.prog 3 self bm w.heap.size n D (fun z => left z && !z.sameKey (key i)) cnt1 := hrg1.kept ((Chg.ofBelow (X := []) hb1).toGrown0 none) (by simp) (by simp)
      have d0 : v1.cell? ⟨p, 0, none⟩ = some (.slice (some ⟨g, 0, none⟩) N cap) := (hc2.cell l1 (by simp [n1])).trans c0
      obtain ⟨cur, hcur⟩ : ∃ cur, v1.heap[g]? = some (.cells cur 68 (0, 0)) := by obtain ⟨_, cur, _, hh, _⟩ := hR2; exact ⟨cur, hh⟩
      obtain ⟨hle, hR3⟩ := hR2.set (i := i) (by rw [pgs_length]; exact hi) hPg.1 hcur
      rw [← pgs_step d.S left hl] at hR3
      have hst := run_storeCells_page (P := Try.prog) (w := v1.drew) hcur hle
      have hpz : (pa l).size = 128 := by rw [pa_size, hPg.1]
      have hvd : v1.drew.cell? ⟨p, 0, none⟩ = some (.slice (some ⟨g, 0, none⟩) N cap) ∧ v1.drew.heap[w1.heap.size]? = some (.cells (pa l) 68 (0, 0)) := ⟨d0, hvar⟩
      obtain ⟨v2, Hv2⟩ : ∃ v2, Hid (v2 = v1.drew.setRow g (cur.toList.take (i * 128) ++ pc l ++ cur.toList.drop (i * 128 + (pc l).length)).toArray) := ⟨_, ⟨rfl⟩⟩
      have hgw : g ≠ w1.heap.size := by omega
      have HE : Hid (Rows v2 g cap 68 (pgs d.S (fun z => left z && !z.sameKey (key i))) ∧ Chg [g] w v2) := ⟨by rw [Hv2.out]; exact hR3, by rw [Hv2.out]; exact hc2.drew.setRow (.inl (by simp)) _⟩
      have hrg3 : v2.ranges Try.prog 3 self bm w.heap.size n D (fun z => left z && !z.sameKey (key i)) cnt1 := by
        rw [Hv2.out]
        exact hrg2.kept ((Chg.refl [g] v1).drew.setRow (.inl (by simp)) _).toGrown (by simp; exact Ne.symm n3) (by simp; omega)
      have hv2d : v2.cell? ⟨p, 0, none⟩ = some (.slice (some ⟨g, 0, none⟩) N cap) ∧ v2.heap[w1.heap.size]? = some (.cells (pa l) 68 (0, 0)) := by
        rw [Hv2.out]
        refine ⟨?_, (setRow_other _ _ _ _ (Ne.symm hgw)).trans hvar⟩
        have e : (v1.drew.setRow g (cur.toList.take (i * 128) ++ pc l ++ cur.toList.drop (i * 128 + (pc l).length)).toArray).heap[p]? = v1.heap[p]? := setRow_other _ _ _ _ n1
        exact (World.cell?_of_block (a := ⟨p, 0, none⟩) e).trans d0
      rw [← Hv2.out] at hst
      clear hR3 hR2 hR1 hc1 hc2 hrg1 hrg2 hat hkey hlk hrg hlt hcur hle hb1 hg1 hs1 hxd hx0 hx1 hgl1
      go_wp2_with (first
        | (refine wpList_store_row rfl 68 (.tmp 3) (.tmp 13) rfl w1.heap.size (pa l) rfl rfl 68 Try.zeroCells68 (heap_alloc_new w1 _) hpa (by rw [zc68, pa_size, pa_size, hPg.1]; rfl) (pa_one _) ?_; rw [← Hv1.out])
        | go_in)
      refine wp_region_held_drew (S := fun w' => w'.cell? ⟨p, 0, none⟩ = some (.slice (some ⟨g, 0, none⟩) N cap) ∧ w'.heap[w1.heap.size]? = some (.cells (pa l) 68 (0, 0))) (by kernel_rfl) hvd (fun hS => ?_)
      refine wpAnyH_take (i := 0) (v := .pointer (some ⟨p, 0, none⟩)) rfl (by kernel_rfl) (by kernel_rfl) (by kernel_rfl) (fun _ _ _ h => h) (Or.inl ⟨by kernel_rfl, fun _ _ => by kernel_rfl⟩) hS ?_
      refine wpAnyH_take (i := 1) (v := .pointer (some ⟨p, 0, none⟩)) rfl (by kernel_rfl) (by kernel_rfl) (by kernel_rfl) (fun _ _ _ h => h) (Or.inl ⟨by kernel_rfl, fun wx _ => by go_simp⟩) hS ?_
      refine wpAnyH_take (i := 2) (v := .pointer (some ⟨p, 0, none⟩)) rfl (by kernel_rfl) (by kernel_rfl) (by kernel_rfl) (fun _ _ _ h => h) (Or.inl ⟨by kernel_rfl, fun wx _ => by go_simp⟩) hS ?_
      refine wpAnyH_take (i := 3) (v := .slice (some ⟨g, 0, none⟩) N cap) rfl (by kernel_rfl) (by kernel_rfl) (by kernel_rfl) (fun _ _ _ h => h) (Or.inl ⟨by kernel_rfl, fun wx hx => by obtain ⟨hx0, _⟩ := hx; go_simp⟩) hS ?_
      refine wpAnyH_take (i := 4) (v := .int .i64 (i : Int)) rfl (by kernel_rfl) (by kernel_rfl) (by kernel_rfl) (fun _ _ _ h => h) (Or.inl ⟨by kernel_rfl, fun _ _ => by kernel_rfl⟩) hS ?_
      refine wpAnyH_take (i := 5) (v := .agg (pa l)) rfl (by kernel_rfl) (by kernel_rfl) (by kernel_rfl) (fun _ _ _ h => h) (Or.inl ⟨by kernel_rfl, fun wx hx => exec_load_page (.tmp 3) rfl (by kernel_rfl) hPg.1 (var_cells hx.2)⟩) hS ?_
      refine wpAnyH_take (i := 6) (v := .pointer (some ⟨g, i * 128, none⟩)) rfl (by kernel_rfl) (by kernel_rfl) (by kernel_rfl) (fun _ _ _ h => h) (Or.inl ⟨by kernel_rfl, fun wx _ => by go_simp⟩) hS ?_
      refine wpAnyH_ready (rs := [7]) (by kernel_rfl) (by simp) (AllReadyH.cons rfl (fun Kc hK => ?_) AllReadyH.nil)
      go_simp
      refine hK.out _ _ hv2d (fun hS => ?_)
      clear hK
      refine wpAnyH_done (by kernel_rfl) ?_ _
      go_wp2
      go_roundw
      case rel => exact ⟨_, cnt1, hrg3, HE⟩
      case measure => rw [hrg3.left_eq]; exact hmeas
end Go.Proofs.Ytmcikhdfpmkpnaa
