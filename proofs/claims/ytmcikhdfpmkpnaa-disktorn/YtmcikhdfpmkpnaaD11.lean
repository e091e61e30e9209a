/- Package disk's Rot. -/
import Derived.Test.YtmcikhdfpmkpnaaD10
namespace Go.Proofs.Ytmcikhdfpmkpnaa
open Go.RowKit Go.Maps Go.Sort Go.Shelf

def setSure (d : Dk) (i : Nat) (l : List Int) : Dk := { d with S := d.S.set i (l, none) }
def rotD (d : Dk) (i : Int) (b : List Int) : Dk := if fitE d i b.length ≠ 0 then d else setSure d i.toNat (fil b)

section
variable {w : World} {p g bm base : Nat} {d : Dk}
set_option maxHeartbeats 2000000 in
set_option maxRecDepth 100000 in
theorem rot_any (h : At w p g bm base d) (i : Int) (v : Value) (b : List Int) (hv : Bs w v b) :
    Calls Try.prog 22 #[.pointer (some ⟨p, 0, none⟩), .int .i64 i, v] w fun e w' => e = .returned (.int .i64 (fitE d i b.length)) ∧ At w' p g bm base (rotD d i b) ∧ Chg [p, g, bm] w w' := by
  have HV : Hid (Bs w v b) := ⟨hv⟩
  obtain ⟨ao, cp, rfl, _, _, _, _, hby⟩ := hv
  have t2 := fits_any h i ao b.length cp
  unfold rotD
  by_cases hf : fitE d i b.length = 0
  · obtain ⟨hi0, hi1, hbl⟩ := fitE_zero hf
    rw [hf] at t2
    simp only [hf, ne_eq, not_true, if_false]
    obtain ⟨j, rfl⟩ : ∃ j : Nat, i = j := ⟨i.toNat, by omega⟩
    have hj : j < d.S.length := by omega
    have e1 : (j : Int).toNat = j := rfl
    rw [e1]
    have hPg : Pg (fil b) := pg_fil hby hbl
    have t3 : Calls Try.prog 37 #[.slice ao b.length cp] w.drew fun e w' => e = .returned (.agg (pa (fil b))) ∧ Below w.drew.heap.size w.drew w' := filled_any _ b w.drew HV.out hbl
    obtain ⟨cap, tc, n, D, h⟩ := h
    obtain ⟨c0, c1, _⟩ := h.cells
    obtain ⟨n1, n2, n3⟩ := h.ne
    obtain ⟨l1, l2, l3⟩ := h.lt
    have HX : Hid (AtX w p g bm base cap tc n D d) := ⟨h⟩
    have hpz : (pa (fil b)).size = 128 := by rw [pa_size, hPg.1]
    clear h hby HV hf
    generalize hN : d.S.length = N at c0 hi1
    have hS0 : w.drew.cell? ⟨p, 0, none⟩ = some (.slice (some ⟨g, 0, none⟩) N cap) := c0
    generalize b.length = bl at t2 t3
    generalize fil b = fb at t3 hPg hpz
    go_enter Try.func22, Try.ntmps22
    go_wp2_with (go_at_call 34; refine t2.mono ?_; rintro e w' ⟨rfl, rfl⟩; clear t2)
    refine wp_region_held_drew (S := fun w' => w'.cell? ⟨p, 0, none⟩ = some (.slice (some ⟨g, 0, none⟩) N cap)) (by kernel_rfl) hS0 (fun hS => ?_)
    refine wpAnyH_take (i := 0) (v := .pointer (some ⟨p, 0, none⟩)) rfl (by kernel_rfl) (by kernel_rfl) (by kernel_rfl) (fun _ _ _ h => h) (Or.inl ⟨by kernel_rfl, fun _ _ => by kernel_rfl⟩) hS ?_
    refine wpAnyH_take (i := 1) (v := .pointer (some ⟨p, 0, none⟩)) rfl (by kernel_rfl) (by kernel_rfl) (by kernel_rfl) (fun _ _ _ h => h) (Or.inl ⟨by kernel_rfl, fun wx _ => by go_simp⟩) hS ?_
    refine wpAnyH_take (i := 2) (v := .pointer (some ⟨p, 0, none⟩)) rfl (by kernel_rfl) (by kernel_rfl) (by kernel_rfl) (fun _ _ _ h => h) (Or.inl ⟨by kernel_rfl, fun wx _ => by go_simp⟩) hS ?_
    refine wpAnyH_take (i := 3) (v := .slice (some ⟨g, 0, none⟩) N cap) rfl (by kernel_rfl) (by kernel_rfl) (by kernel_rfl) (fun _ _ _ h => h) (Or.inl ⟨by kernel_rfl, fun wx hx => by go_simp⟩) hS ?_
    refine wpAnyH_take (i := 4) (v := .int .i64 (j : Int)) rfl (by kernel_rfl) (by kernel_rfl) (by kernel_rfl) (fun _ _ _ h => h) (Or.inl ⟨by kernel_rfl, fun _ _ => by kernel_rfl⟩) hS ?_
    refine wpAnyH_take (i := 5) (v := .slice ao bl cp) rfl (by kernel_rfl) (by kernel_rfl) (by kernel_rfl) (fun _ _ _ h => h) (Or.inl ⟨by kernel_rfl, fun _ _ => by kernel_rfl⟩) hS ?_
    refine wpAnyH_ready (rs := [6]) (by kernel_rfl) (by simp) (AllReadyH.cons rfl (fun Kc hK => ?_) AllReadyH.nil)
    go_simp
    refine t3.mono ?_
    rintro e w1 ⟨rfl, hb1⟩
    have hX1 : AtX w1 p g bm base cap tc n D d := (HX.out.kept (w' := w.drew) rfl rfl rfl).below hb1
    have d0 : w1.cell? ⟨p, 0, none⟩ = some (.slice (some ⟨g, 0, none⟩) N cap) := (hb1.cell (p := ⟨p, 0, none⟩) l1).trans c0
    have hc1 : Chg [p, g, bm] w w1 := (Chg.refl _ w).drew.trans (Chg.ofBelow hb1)
    obtain ⟨cur, hcur⟩ := hX1.cur
    obtain ⟨hle, hX2⟩ := hX1.page hj hPg hcur
    have hst := run_storeCells_page (P := Try.prog) (w := w1) hcur hle
    obtain ⟨v2, Hv2⟩ : ∃ v2, Hid (v2 = w1.setRow g (cur.toList.take (j * 128) ++ pc fb ++ cur.toList.drop (j * 128 + (pc fb).length)).toArray) := ⟨_, ⟨rfl⟩⟩
    rw [← Hv2.out] at hst hX2
    have hc2 : Chg [p, g, bm] w v2 := by rw [Hv2.out]; exact hc1.setRow (.inl (by simp)) _
    have d2 : v2.cell? ⟨p, 0, none⟩ = some (.slice (some ⟨g, 0, none⟩) N cap) := by have := hX2.cells.1; simpa [hN] using this
    have d1 : v2.cell? ⟨p, 1, none⟩ = some (.map (some bm)) := hX2.cells.2.1
    obtain ⟨v3, hdel, hc3, n', D', hX3⟩ := hX2.delete (i := j) (by simpa using hj) 0
    have HR : Hid (At v3 p g bm base (setSure d j fb) ∧ Chg [p, g, bm] w v3) := ⟨by
      refine ⟨?_, hc2.trans (hc3.mono (fun x hx => .inl (by simp at hx; simp [hx])))⟩
      have := hX3.at
      have e : { d with S := (d.S.set j (fb, (sec d.S j).2)).set j ((sec (d.S.set j (fb, (sec d.S j).2)) j).1, none) } = setSure d j fb := by
        unfold setSure
        rw [sec_set hj]
        simp
      rw [← e]; exact this⟩
    have hiz : (j : Int) < (N : Int) := by omega
    refine hK.out _ _ d0 (fun hS => ?_)
    clear hK t3 hX1 hX2 hX3 hc1 hc2 hc3 hb1 hcur hle
    refine wpAnyH_take (i := 7) (v := .pointer (some ⟨g, j * 128, none⟩)) rfl (by kernel_rfl) (by kernel_rfl) (by kernel_rfl) (fun _ _ _ h => h) (Or.inl ⟨by kernel_rfl, fun wx _ => by go_simp⟩) hS ?_
    refine wpAnyH_ready (rs := [8]) (by kernel_rfl) (by simp) (AllReadyH.cons rfl (fun Kc hK => ?_) AllReadyH.nil)
    go_simp
    refine hK.out _ _ d2 (fun hS => ?_)
    clear hK
    refine wpAnyH_done (by kernel_rfl) ?_ _
    go_wp2
    go_ret
    exact ⟨rfl, HR.out⟩
  · simp only [hf, ne_eq, not_false_eq_true, if_true]
    have HA : Hid (At w p g bm base d) := ⟨h⟩
    generalize fitE d i b.length = fe at t2 hf
    clear h
    go_enter Try.func22, Try.ntmps22
    go_wp2_with (go_at_call 34; refine t2.mono ?_; rintro e w' ⟨rfl, rfl⟩; clear t2)
    go_ret
    exact ⟨rfl, HA.out, Chg.refl _ _⟩
end
end Go.Proofs.Ytmcikhdfpmkpnaa
