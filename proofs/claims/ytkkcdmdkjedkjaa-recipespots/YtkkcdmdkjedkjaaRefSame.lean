/- Refs are compared; the document's Same, of refs that are the same. -/
import Derived.Test.YtkkcdmdkjedkjaaRefs
import Derived.Test.YtkkcdmdkjedkjaaSums
namespace Go.Proofs.Ytkkcdmdkjedkjaa
open Go.RowKit Go.Lib

theorem RdR.atS {w : World} {v : Value} {L : List Rf} (h : RdR w v L) {i : Nat} (hi : i < L.length) : ∃ b off cap, v = .slice (some ⟨b, off, none⟩) L.length cap ∧ At w b (off + i * 35) (rc (L.getD i r0)) ∧ At w b (off + i * 35) (sc (L.getD i r0).s) := by
  obtain ⟨b, off, cap, e, hc⟩ := h.at' i hi
  have hs := h.sum hi
  have h1 : At w b (off + i * 35) (rc (L.getD i r0)) := fun j v hv => by
    have hj : j < 35 := by
      rcases Nat.lt_or_ge j 35 with k | k
      · exact k
      · rw [List.getElem?_eq_none (by rw [rc_len _ hs]; exact k)] at hv; cases hv
    exact (hc j hj).trans hv
  refine ⟨b, off, cap, e, h1, fun j v hv => ?_⟩
  have hj : j < 32 := by
    rcases Nat.lt_or_ge j 32 with k | k
    · exact k
    · rw [List.getElem?_eq_none (by rw [sc_len, hs.len]; exact k)] at hv; cases hv
  refine h1 j v ?_
  rw [rc_sum _ hs j hj]
  rw [sc_get _ (by rw [hs.len]; exact hj)] at hv
  exact hv
set_option maxRecDepth 10000 in
theorem part28s (w : World) (r : Rf) (hs : Sm r.s) : (part 54 (rc r).toArray 0).run Try.prog w = .ok (.agg (sc r.s).toArray) w := by
  have h1 : (isAgg 54).run Try.prog w = .ok true w := by kernel_rfl
  have h2 : (sizeOf 54).run Try.prog w = .ok 32 w := by kernel_rfl
  unfold part
  simp only [Sem.run_bind, h1, Result.andThen_ok, if_true, h2, Sem.run_pure]
  congr 2
  apply Array.ext'
  rw [Array.toList_extract]
  simp only [List.extract_eq_take_drop, Nat.zero_add, List.drop_zero, Nat.sub_zero]
  unfold rc sc
  rw [List.take_append_of_le_length (by rw [List.length_map, hs.len]; exact Nat.le_refl _)]
  exact List.take_of_length_le (by rw [List.length_map, hs.len]; exact Nat.le_refl _)
theorem part28i (w : World) (r : Rf) (j : Nat) (z : Int) (h : (rc r)[j]? = some (.int .i64 z)) : (part 3 (rc r).toArray j).run Try.prog w = .ok (.int .i64 z) w := by
  have h1 : (isAgg 3).run Try.prog w = .ok false w := by kernel_rfl
  have h2 : (rc r).toArray[j]? = some (.int .i64 z) := by simpa using h
  unfold part
  simp [Sem.run_bind, h1, h2]
theorem u28 : Try.prog.underlying 56 = some (.struct (Try.prog.fieldsOf 56)) := by kernel_rfl
theorem p28 : Try.prog.stoodInHeld 56 = false := by kernel_rfl
theorem f28 : (Try.prog.fieldsOf 56).toList.map (fun f => (f.type, f.offset, f.name == "_")) = [(54, 0, false), (3, 32, false), (3, 33, false), (3, 34, false)] := by kernel_rfl
theorem eqf_cons {P : Program} (w : World) (d : Nat) (xs ys : Array Value) (f : Field) (fs : List Field) (hn : (f.name == "_") = false) {t : TypeId} {o : Nat} (ht : f.type = t) (ho : f.offset = o) {a b : Value} (ha : (part t xs o).run P w = .ok a w) (hb : (part t ys o).run P w = .ok b w) (he : (Op.equalIn d t a b).run P w = .ok true w) :
    (Op.eqFields d xs ys (f :: fs)).run P w = (Op.eqFields d xs ys fs).run P w := by
  subst ht ho
  have hn' : f.name ≠ "_" := by simpa using hn
  rw [Op.eqFields, if_pos hn', Sem.run_bind, ha]
  simp only [Result.andThen_ok, Sem.run_bind, hb, he]
  rfl
theorem four {fs : List Field} {a b c e : TypeId × Nat × Bool} (h : fs.map (fun f => (f.type, f.offset, f.name == "_")) = [a, b, c, e]) : ∃ f0 f1 f2 f3 : Field, fs = [f0, f1, f2, f3] ∧ (f0.type, f0.offset, f0.name == "_") = a ∧ (f1.type, f1.offset, f1.name == "_") = b ∧ (f2.type, f2.offset, f2.name == "_") = c ∧ (f3.type, f3.offset, f3.name == "_") = e := by
  match fs, h with
  | [f0, f1, f2, f3], h =>
    simp only [List.map_cons, List.map_nil, List.cons.injEq, and_true] at h
    exact ⟨f0, f1, f2, f3, rfl, h⟩
theorem eq28 (w : World) (r : Rf) (hs : Sm r.s) (d : Nat) : (Op.equalIn (d + 3) 56 (.agg (rc r).toArray) (.agg (rc r).toArray)).run Try.prog w = .ok true w := by
  have hn := rc_num r hs
  have hs' : Sum32 r.s := ⟨hs.len, hs.byte⟩
  have hE := eqIn32 w hs' hs' d
  rw [all32 hs' hs', decide_eq_true rfl] at hE
  have hI : ∀ z : Int, (Op.equalIn (d + 2) 3 (.int .i64 z) (.int .i64 z)).run Try.prog w = .ok true w := fun z => by
    rw [run_equalIn_int w (d + 1) 3 .i64 .i64 z z Try.underlying3]
    simp
  rw [run_equalIn_struct w (d + 2) 56 _ _ u28 p28]
  have hq := f28
  generalize (Try.prog.fieldsOf 56).toList = fs at hq
  obtain ⟨f0, f1, f2, f3, rfl, e0, e1, e2, e3⟩ := four hq
  simp only [Prod.mk.injEq] at e0 e1 e2 e3
  rw [eqf_cons w (d + 2) _ _ f0 _ e0.2.2 e0.1 e0.2.1 (part28s w r hs) (part28s w r hs) hE,
    eqf_cons w (d + 2) _ _ f1 _ e1.2.2 e1.1 e1.2.1 (part28i w r _ _ hn.1) (part28i w r _ _ hn.1) (hI _),
    eqf_cons w (d + 2) _ _ f2 _ e2.2.2 e2.1 e2.2.1 (part28i w r _ _ hn.2.1) (part28i w r _ _ hn.2.1) (hI _),
    eqf_cons w (d + 2) _ _ f3 _ e3.2.2 e3.1 e3.2.1 (part28i w r _ _ hn.2.2) (part28i w r _ _ hn.2.2) (hI _)]
  rfl
theorem ne28 (w : World) (r : Rf) (hs : Sm r.s) : (binOp .neq 56 (.agg (rc r).toArray) (.agg (rc r).toArray)).run Try.prog w = .ok (.bool false) w := by
  rw [run_neq_struct, eq28 w r hs 9997]
  rfl
theorem guard28 (w : World) (op : BinOp) (x y : Operand) (xs ys : Array Value) : (eqGuard op 56 x y (.agg xs) (.agg ys)).run Try.prog w = .ok () w := run_eqGuard_agg w op 56 x y xs ys (by kernel_rfl)
theorem run_loadR {w : World} {b off : Nat} {r : Rf} (hc : At w b off (rc r)) (hs : Sm r.s) : (loadVar 56 ⟨b, off, none⟩).run Try.prog w = .ok (.agg (rc r).toArray) w :=
  run_loadA 56 w b off (rc r) _ hc Try.underlying56 rfl (by rw [rc_len r hs]; exact info28)
section
variable {w : World}
set_option maxHeartbeats 4000000 in
set_option maxRecDepth 100000 in
theorem same_yes (v u : Value) (L : List Rf) (h1 : RdR w v L) (h2 : RdR w u L) (hL : L.length ≤ 10000000000000) : Calls Try.prog 17 #[v, u] w fun e w' => e = .returned (.bool true) ∧ Chg [] w w' := by
  have H1 := Hid.mk h1
  have H2 := Hid.mk h2
  obtain ⟨n, Hn⟩ : ∃ n, Hid (L.length = n) := ⟨_, ⟨rfl⟩⟩
  obtain ⟨a1, c1, rfl, _⟩ := h1.shape
  obtain ⟨a2, c2, rfl, _⟩ := h2.shape
  rw [Hn.out] at H1 H2 hL ⊢
  clear h1 h2
  go_enter Try.func17, Try.ntmps17
  go_wp2_with fail
  go_loopg [5] n (fun gg s5 wr => ∃ k : Nat, k ≤ n ∧ n - k ≤ gg ∧ s5 = .int .i64 (k : Int) ∧ Hid (Chg [] w wr))
  case atStart => exact ⟨0, Nat.zero_le _, by omega, rfl, ⟨Chg.refl _ _⟩⟩
  case round =>
    obtain ⟨k, hk, hgg, rfl, HG⟩ := hrel
    by_cases hlt : k < n
    · have hltz : (k : Int) < (n : Int) := by omega
      have hkL : k < L.length := by rw [Hn.out]; exact hlt
      obtain ⟨b1, o1, d1, e1, hat1, _⟩ := H1.out.atS hkL
      obtain ⟨b2, o2, d2, e2, hat2, _⟩ := H2.out.atS hkL
      have hsm := H1.out.sum hkL
      rw [Hn.out] at e1 e2
      simp at e1 e2
      obtain ⟨rfl, rfl⟩ := e1
      obtain ⟨rfl, rfl⟩ := e2
      generalize L.getD k r0 = r at hat1 hat2 hsm
      have q1 := run_loadR (w := wr.drew) (hat1.far HG.out.drew (by simp)) hsm
      have q2 := run_loadR (w := wr.drew) (hat2.far HG.out.drew (by simp)) hsm
      have hq := fun (w : World) => ne28 w r hsm
      have hg := fun (w : World) (x y : Operand) (xs ys : Array Value) => guard28 w .neq x y xs ys
      obtain ⟨cs, Hcs⟩ : ∃ cs, Hid ((rc r).toArray = cs) := ⟨_, ⟨rfl⟩⟩
      rw [Hcs.out] at q1 q2
      simp only [Hcs.out] at hq
      have hS0 : (fun w' => (loadVar 56 ⟨b1, o1 + k * 35, none⟩).run Try.prog w' = .ok (.agg cs) w' ∧ (loadVar 56 ⟨b2, o2 + k * 35, none⟩).run Try.prog w' = .ok (.agg cs) w') wr.drew := ⟨q1, q2⟩
      clear hat1 hat2 q1 q2 hsm
      go_upto_region 6 with fail
      refine wp_region_held_drew (S := (fun w' => (loadVar 56 ⟨b1, o1 + k * 35, none⟩).run Try.prog w' = .ok (.agg cs) w' ∧ (loadVar 56 ⟨b2, o2 + k * 35, none⟩).run Try.prog w' = .ok (.agg cs) w')) (by kernel_rfl) hS0 (fun hS => ?_)
      refine wpAnyH_take (i := 0) (v := .slice (some ⟨b1, o1, none⟩) n c1) rfl (by kernel_rfl) (by kernel_rfl) (by kernel_rfl) (fun _ _ _ h => h) (Or.inl ⟨by kernel_rfl, fun _ _ => by kernel_rfl⟩) hS ?_
      refine wpAnyH_take (i := 1) (v := .int .i64 (k : Int)) rfl (by kernel_rfl) (by kernel_rfl) (by kernel_rfl) (fun _ _ _ h => h) (Or.inl ⟨by kernel_rfl, fun _ _ => by kernel_rfl⟩) hS ?_
      refine wpAnyH_take (i := 2) (v := .pointer (some ⟨b1, o1 + k * 35, none⟩)) rfl (by kernel_rfl) (by kernel_rfl) (by kernel_rfl) (fun _ _ _ h => h) (Or.inl ⟨by kernel_rfl, fun wx hx => by go_simp⟩) hS ?_
      refine wpAnyH_take (i := 3) (v := .agg cs) rfl (by kernel_rfl) (by kernel_rfl) (by kernel_rfl) (fun _ _ _ h => h) (Or.inl ⟨by kernel_rfl, fun wx hx => exec_load rfl b1 (o1 + k * 35) (by kernel_rfl) hx.1⟩) hS ?_
      refine wpAnyH_take (i := 4) (v := .slice (some ⟨b2, o2, none⟩) n c2) rfl (by kernel_rfl) (by kernel_rfl) (by kernel_rfl) (fun _ _ _ h => h) (Or.inl ⟨by kernel_rfl, fun _ _ => by kernel_rfl⟩) hS ?_
      refine wpAnyH_take (i := 5) (v := .int .i64 (k : Int)) rfl (by kernel_rfl) (by kernel_rfl) (by kernel_rfl) (fun _ _ _ h => h) (Or.inl ⟨by kernel_rfl, fun _ _ => by kernel_rfl⟩) hS ?_
      refine wpAnyH_take (i := 6) (v := .pointer (some ⟨b2, o2 + k * 35, none⟩)) rfl (by kernel_rfl) (by kernel_rfl) (by kernel_rfl) (fun _ _ _ h => h) (Or.inl ⟨by kernel_rfl, fun wx hx => by go_simp⟩) hS ?_
      refine wpAnyH_take (i := 7) (v := .agg cs) rfl (by kernel_rfl) (by kernel_rfl) (by kernel_rfl) (fun _ _ _ h => h) (Or.inl ⟨by kernel_rfl, fun wx hx => exec_load rfl b2 (o2 + k * 35) (by kernel_rfl) hx.2⟩) hS ?_
      refine wpAnyH_take (i := 8) (v := .bool false) rfl (by kernel_rfl) (by kernel_rfl) (by kernel_rfl) (fun _ _ _ h => h) (Or.inl ⟨by kernel_rfl, fun wx hx => by go_simp⟩) hS ?_
      refine wpAnyH_done (by kernel_rfl) ?_ _
      clear hS hS0
      go_simp
      go_wp2_with fail
      go_roundg (n - (k + 1))
      case measure => omega
      case rel => exact ⟨k + 1, by omega, by omega, by go_num, ⟨HG.out.drew⟩⟩
    · obtain rfl : k = n := by omega
      go_wp2_with fail
      go_ret
      exact ⟨rfl, HG.out⟩
end
end Go.Proofs.Ytkkcdmdkjedkjaa
