/- The document's Write and Rot. -/
import Derived.Test.YtmcikhdfpmkpnaaR3
namespace Go.Proofs.Ytmcikhdfpmkpnaa
open Go.RowKit Go.Maps Go.Sort Go.Shelf

theorem Bs.cases {w : World} {v : Value} {bs : List Int} (h : Bs w v bs) :
    (bs = [] ∧ ∃ a cap, v = .slice a 0 cap ∧ cap ≤ maxLen ∧ (a = none → cap = 0)) ∨
    (bs ≠ [] ∧ ∃ b off cap, v = .slice (some ⟨b, off, none⟩) bs.length cap ∧ bs.length ≤ cap ∧ cap ≤ maxLen ∧ b < w.heap.size ∧ ∀ i, i < bs.length → w.cell? ⟨b, off + i, none⟩ = some (.int .u8 (bs.getD i 0))) := by
  obtain ⟨a, cap, rfl, hl, hm, hn, hc, _⟩ := h
  by_cases hb : bs = []
  · subst hb; exact .inl ⟨rfl, a, cap, rfl, hm, hn⟩
  · have hp : 0 < bs.length := List.length_pos_iff.2 hb
    cases a with
    | none => have := hn rfl; omega
    | some x =>
      obtain ⟨b, off, spot⟩ := x
      have h0 := hc _ rfl 0 hp
      have hs : spot = none := by simpa [Addr.add] using World.cell?_spot h0
      subst hs
      refine .inr ⟨hb, b, off, cap, rfl, hl, hm, ?_, fun i hi => by rw [← add_plain]; exact hc _ rfl i hi⟩
      simpa [Addr.add] using World.block_lt_of_cell? w _ h0
/-- 'string(b)'. -/
theorem run_str {w : World} {v : Value} {bs : List Int} (h : Bs w v bs) : (convert 37 9 v).run Try.prog w = .ok (.string (strOfNums bs)) w := by
  rcases h.cases with ⟨rfl, a, cap, rfl, hm, hn⟩ | ⟨hb, b, off, cap, rfl, hl, hm, _, hc⟩
  · cases a with
    | none => rw [run_convert_bytes_nil w 37 5 Try.underlying37 Try.underlying5 0 cap 9 Try.underlying9]; rfl
    | some x =>
      rw [run_convert_bytes_string w 37 9 5 _ 0 cap Try.underlying37 Try.underlying5 Try.underlying9, run_bytesToString w x 0 cap [] (by simpa using run_loadCells_list (P := Try.prog) w x [] (by simp))]
      rfl
  · exact run_convert_bytes_arg w 37 5 Try.underlying37 Try.underlying5 b off bs.length cap bs rfl hc 9 Try.underlying9
theorem Rf.noByte {w : World} {q base : Nat} {d : Dk} (h : Rf w q base d) {a : Addr} {z : Int} (hc : w.cell? a = some (.int .u8 z)) : a.block ≠ q := by
  intro e
  obtain ⟨v, ar, h⟩ := h
  obtain ⟨ao, cap, rfl, _⟩ := h.own.shape
  obtain ⟨b, off, spot⟩ := a
  have hs : spot = none := World.cell?_spot hc
  simp only at e
  subst hs e
  rw [cell_of_row w b off _ 52 (0, 0) h.row] at hc
  match off with
  | 0 => simp at hc
  | 1 => simp at hc
  | 2 => simp at hc
  | 3 => simp at hc
  | k + 4 => simp at hc
theorem Rf.below {w w' : World} {q base : Nat} {d : Dk} (h : Rf w q base d) (hb : Below w.heap.size w w') : Rf w' q base d := by
  obtain ⟨v, ar, h⟩ := h
  exact (h.below hb).rf
theorem Rf.lt {w : World} {q base : Nat} {d : Dk} (h : Rf w q base d) : q < w.heap.size := by
  obtain ⟨v, ar, h⟩ := h
  exact h.lt
theorem Bs.rf {w w' : World} {q base : Nat} {d : Dk} {v : Value} {bs : List Int} (h : Bs w v bs) (hr : Rf w q base d) (hc : Chg [q] w w') : Bs w' v bs := h.chg hc (fun a z hz => by have := hr.noByte hz; simpa using this)

section
variable {w : World} {q base : Nat} {d : Dk}
/-- The write itself. -/
theorem fil_str (b : List Int) : strOfNums b ++ strOfNums (List.replicate (128 - b.length) 0) = strOfNums (fil b) := by rw [str_append]; rfl

set_option maxHeartbeats 2000000 in
set_option maxRecDepth 100000 in
theorem rrot_any (h : Rf w q base d) (hbs : base ≤ w.heap.size) (i : Int) (v : Value) (b : List Int) (hv : Bs w v b) :
    Calls Try.prog 46 #[.pointer (some ⟨q, 0, none⟩), .int .i64 i, v] w fun e w' => e = .returned (.int .i64 (fitE d i b.length)) ∧ Rf w' q base (rotD d i b) ∧ Chg [q] w w' := by
  have HV : Hid (Bs w v b) := ⟨hv⟩
  have HA : Hid (Rf w q base d) := ⟨h⟩
  obtain ⟨v0, ar, h0⟩ := h
  obtain ⟨c0, _⟩ := h0.cells
  obtain ⟨ao, cap, rfl, _⟩ := h0.own.shape
  obtain ⟨av, cv, rfl, _, _, _, _, hby⟩ := hv
  obtain ⟨N, HN⟩ : ∃ N, Hid (d.S.length = N) := ⟨_, ⟨rfl⟩⟩
  unfold rotD fitE
  rw [HN.out] at c0 ⊢
  clear h0
  by_cases hi : 0 ≤ i ∧ i < (N : Int)
  · obtain ⟨hi0, hi1⟩ := hi
    have hin : ¬ i < 0 := by omega
    have hge : ¬ (N : Int) ≤ i := by omega
    by_cases hb : 128 < b.length
    · have hbz : (128 : Int) < (b.length : Int) := by omega
      simp only [hi0, hi1, and_self, if_true, hb, ne_eq, show ¬ (6 : Int) = 0 by omega, not_false_eq_true]
      go_enter Try.func46, Try.ntmps46
      go_wp2
      go_ret
      exact ⟨rfl, HA.out, Chg.refl _ _⟩
    · have hbz : ¬ (128 : Int) < (b.length : Int) := by omega
      simp only [hi0, hi1, and_self, if_true, hb, if_false, ne_eq, not_true]
      obtain ⟨j, rfl⟩ : ∃ j : Nat, i = j := ⟨i.toNat, by omega⟩
      have hj : j < d.S.length := by have := HN.out; omega
      have e1 : (j : Int).toNat = j := rfl
      rw [e1]
      have hPg : Pg (fil b) := pg_fil hby (by omega)
      have t1 := zeros_any (128 - b.length) w.drew (by omega)
      have hcast : ((128 - b.length : Nat) : Int) = 128 - (b.length : Int) := by omega
      have hw : wrap64 (128 - (b.length : Int)) = 128 - (b.length : Int) := IntWalk.wrap64_in _ ⟨by omega, by omega⟩
      have t2 := set_any (s := (fil b, none)) (HA.out.below (w' := w.drew) (Below.refl _ w).drew) hbs hj ⟨hPg, fun l hl => by simp at hl⟩
      have hcv := run_str (w := w.drew) HV.out
      have HCV : Hid (∀ w', Chg [q] w.drew w' → (convert 37 9 (.slice av b.length cv)).run Try.prog w' = .ok (.string (strOfNums b)) w') := ⟨fun w' hc => run_str (Bs.rf (w := w.drew) HV.out (HA.out.below (w' := w.drew) (Below.refl _ w).drew) hc)⟩
      simp only [Option.getD_none, Option.isSome_none, str_nil] at t2
      have HADD : Hid (¬ 9223372036854775807 < (strOfNums b).size + (strOfNums (List.replicate (128 - b.length) 0)).size ∧ strOfNums b ++ strOfNums (List.replicate (128 - b.length) 0) = strOfNums (fil b)) := ⟨by rw [strOfNums_size, strOfNums_size]; simp; omega, fil_str b⟩
      generalize strOfNums (List.replicate (128 - b.length) 0) = zz at t1 HADD
      generalize strOfNums (fil b) = ff at t2 HADD
      generalize strOfNums b = sb at hcv HCV HADD
      rw [hcast] at t1
      clear hcast HA HV
      generalize b.length = bl at *
      go_enter Try.func46, Try.ntmps46
      go_wp2
      refine wp_region_held_drew (S := fun w' => (convert 37 9 (.slice av bl cv)).run Try.prog w' = .ok (.string sb) w') (by kernel_rfl) hcv (fun hS => ?_)
      refine wpAnyH_take (i := 0) (v := .pointer (some ⟨q, 0, none⟩)) rfl (by kernel_rfl) (by kernel_rfl) (by kernel_rfl) (fun _ _ _ h => h) (Or.inl ⟨by kernel_rfl, fun _ _ => by kernel_rfl⟩) hS ?_
      refine wpAnyH_take (i := 1) (v := .int .i64 (j : Int)) rfl (by kernel_rfl) (by kernel_rfl) (by kernel_rfl) (fun _ _ _ h => h) (Or.inl ⟨by kernel_rfl, fun _ _ => by kernel_rfl⟩) hS ?_
      refine wpAnyH_take (i := 2) (v := .slice av bl cv) rfl (by kernel_rfl) (by kernel_rfl) (by kernel_rfl) (fun _ _ _ h => h) (Or.inl ⟨by kernel_rfl, fun _ _ => by kernel_rfl⟩) hS ?_
      refine wpAnyH_take (i := 3) (v := .string sb) rfl (by kernel_rfl) (by kernel_rfl) (by kernel_rfl) (fun _ _ _ h => h) (Or.inl ⟨by kernel_rfl, fun wx hx => by go_simp⟩) hS ?_
      refine wpAnyH_take (i := 4) (v := .slice av bl cv) rfl (by kernel_rfl) (by kernel_rfl) (by kernel_rfl) (fun _ _ _ h => h) (Or.inl ⟨by kernel_rfl, fun _ _ => by kernel_rfl⟩) hS ?_
      refine wpAnyH_take (i := 5) (v := .int .i64 (bl : Int)) rfl (by kernel_rfl) (by kernel_rfl) (by kernel_rfl) (fun _ _ _ h => h) (Or.inl ⟨by kernel_rfl, fun wx _ => by go_simp⟩) hS ?_
      refine wpAnyH_take (i := 6) (v := .int .i64 (128 - (bl : Int))) rfl (by kernel_rfl) (by kernel_rfl) (by kernel_rfl) (fun _ _ _ h => h) (Or.inl ⟨by kernel_rfl, fun wx _ => by go_simp; rw [IntKind.wrap_i64]; omega⟩) hS ?_
      refine wpAnyH_ready (rs := [7]) (by kernel_rfl) (by simp) (AllReadyH.cons rfl (fun Kc hK => ?_) AllReadyH.nil)
      go_simp
      refine t1.mono ?_
      rintro e w1 ⟨rfl, rfl⟩
      refine hK.out _ _ hcv (fun hS => ?_)
      clear hK t1
      refine wpAnyH_take (i := 8) (v := .string ff) rfl (by kernel_rfl) (by kernel_rfl) (by kernel_rfl) (fun _ _ _ h => h) (Or.inl ⟨by kernel_rfl, fun wx _ => by obtain ⟨hq1, hq2⟩ := HADD.out; go_simp⟩) hS ?_
      refine wpAnyH_take (i := 9) (v := .agg #[.string ff, .string ⟨#[]⟩, .bool false]) rfl (by kernel_rfl) (by kernel_rfl) (by kernel_rfl) (fun _ _ _ h => h) (Or.inl ⟨by kernel_rfl, fun wx _ => by go_simp⟩) hS ?_
      refine wpAnyH_ready (rs := [10]) (by kernel_rfl) (by simp) (AllReadyH.cons rfl (fun Kc hK => ?_) AllReadyH.nil)
      go_simp
      refine t2.mono ?_
      rintro e w2 ⟨rfl, hR2, hc2⟩
      have HR : Hid (Rf w2 q base (setSure d j (fil b)) ∧ Chg [q] w w2) := ⟨hR2, (Chg.refl [q] w).drew.trans hc2⟩
      refine hK.out _ _ (HCV.out w2 hc2) (fun hS => ?_)
      clear hK t2 hR2 hc2 hS
      refine wpAnyH_done (by kernel_rfl) ?_ _
      go_wp2
      go_ret
      exact ⟨rfl, HR.out⟩
  · simp only [hi, if_false, ne_eq, show ¬ (2 : Int) = 0 by omega, not_false_eq_true, if_true]
    by_cases h1 : i < 0
    · go_enter Try.func46, Try.ntmps46
      go_wp2
      go_ret
      exact ⟨rfl, HA.out, Chg.refl _ _⟩
    · have h2 : (N : Int) ≤ i := by omega
      go_enter Try.func46, Try.ntmps46
      go_wp2
      go_ret
      exact ⟨rfl, HA.out, Chg.refl _ _⟩
end
end Go.Proofs.Ytmcikhdfpmkpnaa
