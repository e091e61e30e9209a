/- Texts joined into one: W1, W2, Y1, Y2. -/
import Derived.Test.YthohpbppfihoiaaX8
/- WireChecks: both Checks answer the same. -/
namespace Go.Proofs.Ythohpbppfihoiaa
open Go.RowKit Go.Lib

section
variable {w : World}
set_option maxHeartbeats 8000000 in
set_option maxRecDepth 100000 in
theorem walk_wireChecks (v : Value) (n : Nt) (W : World) (hb : NoteV W v n) : Calls Try.prog 3 #[v] W fun e w' => e = .returned (.bool true) ∧ Below W.heap.size W w' := by
  obtain ⟨ha, hc, pa, pc, ba, bc, rfl, hH, hP, _⟩ := hb.ex
  have h32 : ∀ p ∈ n.P, p.1.length = 32 := fun p hp => (hb.pt p hp).1
  obtain ⟨q, Hq⟩ : ∃ q, Hid (W.heap.size = q) := ⟨_, ⟨rfl⟩⟩
  obtain ⟨A, HA⟩ : ∃ x, Hid (na n.s n.nm n.g n.i (.slice ha n.H.length hc) (.slice pa n.P.length pc) (.slice ba n.bs.length bc) = x) := ⟨_, ⟨rfl⟩⟩
  obtain ⟨w1, Hw1⟩ : ∃ x, Hid (W.alloc (.cells A 27) = x) := ⟨_, ⟨rfl⟩⟩
  have HB1 : Hid (Below W.heap.size W w1) := ⟨by rw [← Hw1.out]; exact (Below.refl _ W).alloc (Nat.le_refl _) _⟩
  have HX1 : Hid (w1.heap[q]? = some (.cells A 27 (0, 0))) := ⟨by rw [← Hw1.out, ← Hq.out]; exact heap_alloc_new W _⟩
  have hq : q < w1.heap.size := (Array.getElem?_eq_some_iff.1 HX1.out).1
  have HIA : Hid ((Try.prog.info? 27).map (·.size) = some A.size) := ⟨by rw [← HA.out]; exact info27⟩
  obtain ⟨wd, Hwd⟩ : ∃ x, Hid (w1.drew = x) := ⟨_, ⟨rfl⟩⟩
  have HBd : Hid (Below w1.heap.size w1 wd) := ⟨by rw [← Hwd.out]; exact ⟨rfl, rfl, rfl, Nat.le_refl _, fun _ _ => rfl⟩⟩
  have HHx : Hid (∀ wx, Below w1.heap.size w1 wx → RdE he 2 h0 wx (.slice ha n.H.length hc) n.H) := ⟨fun wx h => hH.far (Chg.ofBelow (X := []) (HB1.out.trans (h.mono HB1.out.size))) (by simp)⟩
  have HPx : Hid (∀ wx, Below w1.heap.size w1 wx → RdE pe 33 p0 wx (.slice pa n.P.length pc) n.P) := ⟨fun wx h => hP.far (Chg.ofBelow (X := []) (HB1.out.trans (h.mono HB1.out.size))) (by simp)⟩
  have t8 : ∀ wx, Below w1.heap.size w1 wx → Calls Try.prog 8 #[.agg A] wx fun e w' => e = .returned (.int .i64 (chkN n)) ∧ Below wx.heap.size wx w' := fun wx h => by
    rw [← HA.out]; exact check8 n.s n.nm n.g n.i ha pa ba n.H.length hc n.P.length pc n.bs.length bc n.H n.P (HHx.out wx h) rfl (HPx.out wx h) rfl h32
  have t9 : ∀ wx, Below w1.heap.size w1 wx → Calls Try.prog 9 #[.agg A] wx fun e w' => e = .returned (.int .i64 (chkN n)) ∧ Below wx.heap.size wx w' := fun wx h => by
    rw [← HA.out]; exact rcheck9 n.s n.nm n.g n.i ha pa ba n.H.length hc n.P.length pc n.bs.length bc n.H n.P (HHx.out wx h) rfl (HPx.out wx h) rfl
  obtain ⟨z, Hz⟩ : ∃ z, Hid (chkN n = z) := ⟨_, ⟨rfl⟩⟩
  rw [Hz.out] at t8 t9
  have hzz : (z == z) = true := by simp
  have t7 := live7 (w := wd)
  have HSx : Hid (∀ wx, Below w1.heap.size w1 wx → wx.heap[q]? = some (.cells A 27 (0, 0))) := ⟨fun wx h => (h.block q hq).trans HX1.out⟩
  have hS0 : (fun w' : World => w'.heap[q]? = some (.cells A 27 (0, 0))) w1.drew := by rw [Hwd.out]; exact HSx.out wd HBd.out
  rw [HA.out]
  clear hb hH hP h32
  go_enter Try.func3, Try.ntmps3
  go_upto_region 1 with (refine wp_box rfl 27 (.tmp 0) rfl A rfl ?_; rw [Hw1.out, Hq.out])
  refine wp_region_held_drew (S := (fun w' : World => w'.heap[q]? = some (.cells A 27 (0, 0)))) (by kernel_rfl) hS0 (fun hS => ?_)
  rw [Hwd.out]
  refine wpAnyH_ready (rs := [0]) (by kernel_rfl) (by simp) (AllReadyH.cons rfl (fun Kc hK => ?_) AllReadyH.nil)
  go_simp
  refine t7.mono ?_
  rintro e w2 ⟨rfl, hB2⟩
  have HB2 : Hid (Below w1.heap.size w1 w2) := ⟨HBd.out.trans (hB2.mono HBd.out.size)⟩
  clear t7 hB2
  refine hK.out _ _ (HSx.out w2 HB2.out) (fun hS => ?_)
  clear hK
  refine wpAnyH_take (i := 1) (v := .bool true) rfl (by kernel_rfl) (by kernel_rfl) (by kernel_rfl) (fun _ _ _ h => h) (Or.inl ⟨by kernel_rfl, fun wx hx => by kernel_rfl⟩) hS ?_
  refine wpAnyH_take (i := 2) (v := .agg A) rfl (by kernel_rfl) (by kernel_rfl) (by kernel_rfl) (fun _ _ _ h => h) (Or.inl ⟨by kernel_rfl, fun wx hx => exec_load rfl q 0 rfl (run_loadW 27 wx q A 27 (0, 0) _ hx Try.underlying27 rfl HIA.out)⟩) hS ?_
  refine wpAnyH_take (i := 4) (v := .agg A) rfl (by kernel_rfl) (by kernel_rfl) (by kernel_rfl) (fun _ _ _ h => h) (Or.inl ⟨by kernel_rfl, fun wx hx => exec_load rfl q 0 rfl (run_loadW 27 wx q A 27 (0, 0) _ hx Try.underlying27 rfl HIA.out)⟩) hS ?_
  refine wpAnyH_ready (rs := [3]) (by kernel_rfl) (by simp) (AllReadyH.cons rfl (fun Kc hK => ?_) AllReadyH.nil)
  go_simp
  refine (t8 w2 HB2.out).mono ?_
  rintro e w3 ⟨rfl, hB3⟩
  have HB3 : Hid (Below w1.heap.size w1 w3) := ⟨HB2.out.trans (hB3.mono HB2.out.size)⟩
  clear t8 hB3
  refine hK.out _ _ (HSx.out w3 HB3.out) (fun hS => ?_)
  clear hK
  refine wpAnyH_ready (rs := [5]) (by kernel_rfl) (by simp) (AllReadyH.cons rfl (fun Kc hK => ?_) AllReadyH.nil)
  go_simp
  refine (t9 w3 HB3.out).mono ?_
  rintro e w4 ⟨rfl, hB4⟩
  have HB4 : Hid (Below w1.heap.size w1 w4) := ⟨HB3.out.trans (hB4.mono HB3.out.size)⟩
  clear t9 hB4
  refine hK.out _ _ (HSx.out w4 HB4.out) (fun hS => ?_)
  clear hK
  refine wpAnyH_take (i := 6) (v := .bool true) rfl (by kernel_rfl) (by kernel_rfl) (by kernel_rfl) (fun _ _ _ h => h) (Or.inl ⟨by kernel_rfl, fun wx hx => by go_simp⟩) hS ?_
  refine wpAnyH_take (i := 7) (v := .bool true) rfl (by kernel_rfl) (by kernel_rfl) (by kernel_rfl) (fun _ _ _ h => h) (Or.inl ⟨by kernel_rfl, fun wx hx => by go_simp⟩) hS ?_
  refine wpAnyH_take (i := 8) (v := .bool true) rfl (by kernel_rfl) (by kernel_rfl) (by kernel_rfl) (fun _ _ _ h => h) (Or.inl ⟨by kernel_rfl, fun wx hx => by kernel_rfl⟩) hS ?_
  refine wpAnyH_done (by kernel_rfl) ?_ _
  clear hS hS0
  go_simp
  go_wp2_with fail
  go_ret
  exact ⟨rfl, HB1.out.trans (HB4.out.mono HB1.out.size)⟩
end
end Go.Proofs.Ythohpbppfihoiaa

/- WirePuts: both Puts answer the same. -/
namespace Go.Proofs.Ythohpbppfihoiaa
open Go.RowKit Go.Lib

/-- What Put tells of a note. -/
def putN (n : Nt) : List Int × Int := if chkN n = 0 then (pB n.s n.nm n.g.toNat n.i.toNat n.H n.P n.bs, 0) else ([], chkN n)
theorem pB_nat {n : Nt} (h : chkN n = 0) : pB n.s n.nm n.g n.i n.H n.P n.bs = pB n.s n.nm n.g.toNat n.i.toNat n.H n.P n.bs := by
  have R := right_of (show chk n.s n.nm n.g n.i n.H n.P n.bs.length = 0 from h)
  have hg : 0 ≤ n.g := by
    cases hm : (nmd n.s).1 with
    | true => exact (R.file hm).2.1
    | false => have := (R.nofile hm).2; omega
  rw [Int.toNat_of_nonneg hg, Int.toNat_of_nonneg R.i.1]
section
variable {w : World}
theorem put_any (n : Nt) (ha pa ba : Option Addr) (hc pc bc : Nat) (hH : RdE he 2 h0 w (.slice ha n.H.length hc) n.H) (hP : RdE pe 33 p0 w (.slice pa n.P.length pc) n.P) (hb : Oct.Bs w (.slice ba n.bs.length bc) n.bs) (h32 : ∀ p ∈ n.P, p.1.length = 32) :
    Calls Try.prog 10 #[.agg (na n.s n.nm n.g n.i (.slice ha n.H.length hc) (.slice pa n.P.length pc) (.slice ba n.bs.length bc))] w fun e w' => ∃ v, e = .returned (.tuple #[v, .int .i64 (putN n).2]) ∧ OwnY w' w.heap.size v (putN n).1 ∧ Below w.heap.size w w' := by
  by_cases h : chkN n = 0
  · unfold putN
    rw [if_pos h, ← pB_nat h]
    exact put_ok n.s n.nm n.g n.i ha pa ba n.H.length hc n.P.length pc n.bs.length bc n.H n.P n.bs hH rfl hP rfl hb rfl h32 h
  · unfold putN
    rw [if_neg h]
    refine (put_no n.s n.nm n.g n.i ha pa ba n.H.length hc n.P.length pc n.bs.length bc n.H n.P hH rfl hP rfl h32 h).mono ?_
    rintro e w' ⟨rfl, hB⟩
    exact ⟨_, rfl, owny_nil _ _, hB⟩
theorem rput_any (n : Nt) (ha pa ba : Option Addr) (hc pc bc : Nat) (hH : RdE he 2 h0 w (.slice ha n.H.length hc) n.H) (hP : RdE pe 33 p0 w (.slice pa n.P.length pc) n.P) (hb : Oct.Bs w (.slice ba n.bs.length bc) n.bs) (h32 : ∀ p ∈ n.P, p.1.length = 32) (h256 : ∀ z ∈ n.bs, 0 ≤ z ∧ z < 256) :
    Calls Try.prog 11 #[.agg (na n.s n.nm n.g n.i (.slice ha n.H.length hc) (.slice pa n.P.length pc) (.slice ba n.bs.length bc))] w fun e w' => ∃ v, e = .returned (.tuple #[v, .int .i64 (putN n).2]) ∧ OwnY w' w.heap.size v (putN n).1 ∧ Below w.heap.size w w' := by
  by_cases h : chkN n = 0
  · unfold putN
    rw [if_pos h, ← pB_nat h]
    exact rput_ok n.s n.nm n.g n.i ha pa ba n.H.length hc n.P.length pc n.bs.length bc n.H n.P n.bs hH rfl hP rfl hb rfl h32 h256 h
  · unfold putN
    rw [if_neg h]
    refine (rput_no n.s n.nm n.g n.i ha pa ba n.H.length hc n.P.length pc n.bs.length bc n.H n.P hH rfl hP rfl h).mono ?_
    rintro e w' ⟨rfl, hB⟩
    exact ⟨_, rfl, owny_nil _ _, hB⟩
set_option maxHeartbeats 8000000 in
set_option maxRecDepth 100000 in
theorem walk_wirePuts (v : Value) (n : Nt) (W : World) (hb : NoteV W v n) : Calls Try.prog 4 #[v] W fun e w' => e = .returned (.bool true) ∧ Below W.heap.size W w' := by
  obtain ⟨ha, hc, pa, pc, ba, bc, rfl, hH, hP, hY⟩ := hb.ex
  have h32 : ∀ p ∈ n.P, p.1.length = 32 := fun p hp => (hb.pt p hp).1
  have h256 := hb.by'
  obtain ⟨q, Hq⟩ : ∃ q, Hid (W.heap.size = q) := ⟨_, ⟨rfl⟩⟩
  obtain ⟨A, HA⟩ : ∃ x, Hid (na n.s n.nm n.g n.i (.slice ha n.H.length hc) (.slice pa n.P.length pc) (.slice ba n.bs.length bc) = x) := ⟨_, ⟨rfl⟩⟩
  obtain ⟨w1, Hw1⟩ : ∃ x, Hid (W.alloc (.cells A 27) = x) := ⟨_, ⟨rfl⟩⟩
  have HB1 : Hid (Below W.heap.size W w1) := ⟨by rw [← Hw1.out]; exact (Below.refl _ W).alloc (Nat.le_refl _) _⟩
  have HX1 : Hid (w1.heap[q]? = some (.cells A 27 (0, 0))) := ⟨by rw [← Hw1.out, ← Hq.out]; exact heap_alloc_new W _⟩
  have hq : q < w1.heap.size := (Array.getElem?_eq_some_iff.1 HX1.out).1
  have HIA : Hid ((Try.prog.info? 27).map (·.size) = some A.size) := ⟨by rw [← HA.out]; exact info27⟩
  have HHx : Hid (∀ wx, Below w1.heap.size w1 wx → RdE he 2 h0 wx (.slice ha n.H.length hc) n.H) := ⟨fun wx h => hH.far (Chg.ofBelow (X := []) (HB1.out.trans (h.mono HB1.out.size))) (by simp)⟩
  have HPx : Hid (∀ wx, Below w1.heap.size w1 wx → RdE pe 33 p0 wx (.slice pa n.P.length pc) n.P) := ⟨fun wx h => hP.far (Chg.ofBelow (X := []) (HB1.out.trans (h.mono HB1.out.size))) (by simp)⟩
  have HYx : Hid (∀ wx, Below w1.heap.size w1 wx → Oct.Bs wx (.slice ba n.bs.length bc) n.bs) := ⟨fun wx h => hY.below (HB1.out.trans (h.mono HB1.out.size))⟩
  have tp := put_any (w := w1) n ha pa ba hc pc bc (HHx.out w1 (Below.refl _ _)) (HPx.out w1 (Below.refl _ _)) (HYx.out w1 (Below.refl _ _)) h32
  have tr : ∀ wx, Below w1.heap.size w1 wx → Calls Try.prog 11 #[.agg A] wx fun e w' => ∃ v, e = .returned (.tuple #[v, .int .i64 (putN n).2]) ∧ OwnY w' wx.heap.size v (putN n).1 ∧ Below wx.heap.size wx w' := fun wx h => by
    rw [← HA.out]; exact rput_any n ha pa ba hc pc bc (HHx.out wx h) (HPx.out wx h) (HYx.out wx h) h32 h256
  obtain ⟨⟨L, c⟩, HL⟩ : ∃ r, Hid (putN n = r) := ⟨_, ⟨rfl⟩⟩
  rw [HL.out] at tp tr
  simp only at tp tr
  rw [HA.out] at tp ⊢
  have hcc : (c == c) = true := by simp
  obtain ⟨S, HS⟩ : ∃ S, Hid (strOfNums L = S) := ⟨_, ⟨rfl⟩⟩
  clear hb hH hP hY h32 h256
  go_enter Try.func4, Try.ntmps4
  go_upto_region 1 with (refine wp_box rfl 27 (.tmp 0) rfl A rfl ?_; rw [Hw1.out, Hq.out])
  go_wp2_with (refine wp_load rfl 27 (.tmp 1) rfl q rfl A 27 (0, 0) _ HX1.out Try.underlying27 rfl HIA.out ?_)
  refine tp.mono ?_
  rintro e w2 ⟨v2, rfl, hO2, hB2⟩
  have HO2 := Hid.mk hO2
  have HB2 : Hid (Below w1.heap.size w1 w2) := ⟨hB2⟩
  have HX2 : Hid (w2.heap[q]? = some (.cells A 27 (0, 0))) := ⟨(hB2.block q hq).trans HX1.out⟩
  clear tp hO2 hB2
  go_upto_region 2 with fail
  go_wp2_with (refine wp_load rfl 27 (.tmp 1) rfl q rfl A 27 (0, 0) _ HX2.out Try.underlying27 rfl HIA.out ?_)
  refine (tr w2 HB2.out).mono ?_
  rintro e w3 ⟨v3, rfl, hO3, hB3⟩
  have HO3 := Hid.mk hO3
  have HB3 : Hid (Below w1.heap.size w1 w3) := ⟨HB2.out.trans (hB3.mono HB2.out.size)⟩
  have HB23 := Hid.mk hB3
  clear tr hO3 hB3
  go_wp2_with fail
  refine (live7 (w := w3)).mono ?_
  rintro e w4 ⟨rfl, hB4⟩
  have HB4 := Hid.mk hB4
  obtain ⟨a2, c2, e2, _⟩ := OwnY.shape HO2.out
  subst e2
  obtain ⟨a3, c3, e3, _⟩ := OwnY.shape HO3.out
  subst e3
  have hv2 : (convert 25 9 (.slice a2 L.length c2)).run Try.prog w4 = .ok (.string S) w4 := by rw [← HS.out]; exact bs_str ((Oct.OwnB.bs HO2.out).below (HB23.out.trans (HB4.out.mono HB23.out.size)))
  have hv3 : (convert 25 9 (.slice a3 L.length c3)).run Try.prog w4 = .ok (.string S) w4 := by rw [← HS.out]; exact bs_str ((Oct.OwnB.bs HO3.out).below HB4.out)
  clear hB4
  go_wp2_with fail
  go_ret
  exact ⟨by simp, HB1.out.trans ((HB3.out.trans (HB4.out.mono HB3.out.size)).mono HB1.out.size)⟩
end
end Go.Proofs.Ythohpbppfihoiaa

/- Elements of lists are compared. -/
namespace Go.Proofs.Ythohpbppfihoiaa
open Go.RowKit Go.Lib

theorem eqf_cons {P : Program} (w : World) (d : Nat) (xs ys : Array Value) (f : Field) (fs : List Field) (hn : (f.name == "_") = false) {t : TypeId} {o : Nat} (ht : f.type = t) (ho : f.offset = o) {a b : Value} (ha : (part t xs o).run P w = .ok a w) (hb : (part t ys o).run P w = .ok b w) (he : (Op.equalIn d t a b).run P w = .ok true w) :
    (Op.eqFields d xs ys (f :: fs)).run P w = (Op.eqFields d xs ys fs).run P w := by
  subst ht ho
  have hn' : f.name ≠ "_" := by simpa using hn
  rw [Op.eqFields, if_pos hn', Sem.run_bind, ha]
  simp only [Result.andThen_ok, Sem.run_bind, hb, he]
  rfl
theorem two {fs : List Field} {a b : TypeId × Nat × Bool} (h : fs.map (fun f => (f.type, f.offset, f.name == "_")) = [a, b]) : ∃ f0 f1 : Field, fs = [f0, f1] ∧ (f0.type, f0.offset, f0.name == "_") = a ∧ (f1.type, f1.offset, f1.name == "_") = b := by
  match fs, h with
  | [f0, f1], h =>
    simp only [List.map_cons, List.map_nil, List.cons.injEq, and_true] at h
    exact ⟨f0, f1, rfl, h⟩
theorem part_cell {w : World} {t : TypeId} {xs : Array Value} {j : Nat} {v : Value} (hi : (isAgg t).run Try.prog w = .ok false w) (h : xs[j]? = some v) : (part t xs j).run Try.prog w = .ok v w := by
  unfold part
  simp [Sem.run_bind, hi, h]
set_option maxRecDepth 10000 in
theorem part49s (w : World) (x : Pt) (hs : x.1.length = 32) : (part 47 (pe x).toArray 0).run Try.prog w = .ok (.agg (sc x.1).toArray) w := by
  have h1 : (isAgg 47).run Try.prog w = .ok true w := by kernel_rfl
  have h2 : (sizeOf 47).run Try.prog w = .ok 32 w := by kernel_rfl
  unfold part
  simp only [Sem.run_bind, h1, Result.andThen_ok, if_true, h2, Sem.run_pure]
  congr 2
  apply Array.ext'
  rw [Array.toList_extract]
  simp only [List.extract_eq_take_drop, Nat.zero_add, List.drop_zero, Nat.sub_zero]
  unfold pe sc
  rw [List.take_append_of_le_length (by rw [List.length_map, hs]; exact Nat.le_refl _)]
  exact List.take_of_length_le (by rw [List.length_map, hs]; exact Nat.le_refl _)
theorem u49 : Try.prog.underlying 49 = some (.struct (Try.prog.fieldsOf 49)) := by kernel_rfl
theorem p49 : Try.prog.stoodInHeld 49 = false := by kernel_rfl
theorem f49 : (Try.prog.fieldsOf 49).toList.map (fun f => (f.type, f.offset, f.name == "_")) = [(47, 0, false), (3, 32, false)] := by kernel_rfl
theorem u46 : Try.prog.underlying 46 = some (.struct (Try.prog.fieldsOf 46)) := by kernel_rfl
theorem p46 : Try.prog.stoodInHeld 46 = false := by kernel_rfl
theorem f46 : (Try.prog.fieldsOf 46).toList.map (fun f => (f.type, f.offset, f.name == "_")) = [(9, 0, false), (3, 1, false)] := by kernel_rfl
theorem eqI (w : World) (d : Nat) (z : Int) : (Op.equalIn (d + 2) 3 (.int .i64 z) (.int .i64 z)).run Try.prog w = .ok true w := by
  rw [run_equalIn_int w (d + 1) 3 .i64 .i64 z z Try.underlying3]
  simp
theorem eqT (w : World) (d : Nat) (s : ByteArray) : (Op.equalIn (d + 2) 9 (.string s) (.string s)).run Try.prog w = .ok true w := by
  rw [run_equalIn_string w (d + 1) 9 s s Try.underlying9]
  simp
theorem eq49 (w : World) (x : Pt) (hs : Sum32 x.1) (d : Nat) : (Op.equalIn (d + 3) 49 (.agg (pe x).toArray) (.agg (pe x).toArray)).run Try.prog w = .ok true w := by
  have hE := eqIn32 w hs hs d
  rw [all32 hs hs, decide_eq_true rfl] at hE
  have hc : (pe x).toArray[32]? = some (.int .i64 x.2) := by
    rw [List.getElem?_toArray]
    unfold pe
    rw [List.getElem?_append_right (by simp [hs.len])]
    simp [hs.len]
  rw [run_equalIn_struct w (d + 2) 49 _ _ u49 p49]
  have hq := f49
  generalize (Try.prog.fieldsOf 49).toList = fs at hq
  obtain ⟨f0, f1, rfl, e0, e1⟩ := two hq
  simp only [Prod.mk.injEq] at e0 e1
  rw [eqf_cons w (d + 2) _ _ f0 _ e0.2.2 e0.1 e0.2.1 (part49s w x hs.len) (part49s w x hs.len) hE,
    eqf_cons w (d + 2) _ _ f1 _ e1.2.2 e1.1 e1.2.1 (part_cell (by kernel_rfl) hc) (part_cell (by kernel_rfl) hc) (eqI w d _)]
  rfl
theorem eq46 (w : World) (x : Hd) (d : Nat) : (Op.equalIn (d + 3) 46 (.agg (he x).toArray) (.agg (he x).toArray)).run Try.prog w = .ok true w := by
  rw [run_equalIn_struct w (d + 2) 46 _ _ u46 p46]
  have hq := f46
  generalize (Try.prog.fieldsOf 46).toList = fs at hq
  obtain ⟨f0, f1, rfl, e0, e1⟩ := two hq
  simp only [Prod.mk.injEq] at e0 e1
  rw [eqf_cons w (d + 2) _ _ f0 _ e0.2.2 e0.1 e0.2.1 (part_cell (v := .string x.1) (by kernel_rfl) rfl) (part_cell (v := .string x.1) (by kernel_rfl) rfl) (eqT w d _),
    eqf_cons w (d + 2) _ _ f1 _ e1.2.2 e1.1 e1.2.1 (part_cell (v := .int .i64 x.2) (by kernel_rfl) rfl) (part_cell (v := .int .i64 x.2) (by kernel_rfl) rfl) (eqI w d _)]
  rfl
theorem ne49 (w : World) (x : Pt) (hs : Sum32 x.1) : (binOp .neq 49 (.agg (pe x).toArray) (.agg (pe x).toArray)).run Try.prog w = .ok (.bool false) w := by
  rw [run_neq_struct, eq49 w x hs 9997]
  rfl
theorem ne46 (w : World) (x : Hd) : (binOp .neq 46 (.agg (he x).toArray) (.agg (he x).toArray)).run Try.prog w = .ok (.bool false) w := by
  rw [run_neq_struct, eq46 w x 9997]
  rfl
theorem guard49 (w : World) (op : BinOp) (x y : Operand) (xs ys : Array Value) : (eqGuard op 49 x y (.agg xs) (.agg ys)).run Try.prog w = .ok () w := run_eqGuard_agg w op 49 x y xs ys (by kernel_rfl)
theorem guard46 (w : World) (op : BinOp) (x y : Operand) (xs ys : Array Value) : (eqGuard op 46 x y (.agg xs) (.agg ys)).run Try.prog w = .ok () w := run_eqGuard_agg w op 46 x y xs ys (by kernel_rfl)
end Go.Proofs.Ythohpbppfihoiaa

/- The document's Same, of notes that are the same. -/
namespace Go.Proofs.Ythohpbppfihoiaa
open Go.RowKit Go.Lib

section
variable {w : World}
set_option maxHeartbeats 8000000 in
set_option maxRecDepth 100000 in
theorem same14 (n : Nt) (ha pa ba ha2 pa2 ba2 : Option Addr) (hc pc bc hc2 pc2 bc2 : Nat) (hH : RdE he 2 h0 w (.slice ha n.H.length hc) n.H) (hP : RdE pe 33 p0 w (.slice pa n.P.length pc) n.P) (hb : Oct.Bs w (.slice ba n.bs.length bc) n.bs) (hH2 : RdE he 2 h0 w (.slice ha2 n.H.length hc2) n.H) (hP2 : RdE pe 33 p0 w (.slice pa2 n.P.length pc2) n.P) (hb2 : Oct.Bs w (.slice ba2 n.bs.length bc2) n.bs) (hs : ∀ p ∈ n.P, Sum32 p.1) :
    Calls Try.prog 14 #[.agg (na n.s n.nm n.g n.i (.slice ha n.H.length hc) (.slice pa n.P.length pc) (.slice ba n.bs.length bc)), .agg (na n.s n.nm n.g n.i (.slice ha2 n.H.length hc2) (.slice pa2 n.P.length pc2) (.slice ba2 n.bs.length bc2))] w fun e w' => e = .returned (.bool true) ∧ Below w.heap.size w w' := by
  obtain ⟨s, nm, g, i, H, P, bs⟩ := n
  simp only at hH hP hb hH2 hP2 hb2 hs ⊢
  obtain ⟨hn, HHn⟩ : ∃ x, Hid (H.length = x) := ⟨_, ⟨rfl⟩⟩
  obtain ⟨pn, HPn⟩ : ∃ x, Hid (P.length = x) := ⟨_, ⟨rfl⟩⟩
  obtain ⟨bn, HBn⟩ : ∃ x, Hid (bs.length = x) := ⟨_, ⟨rfl⟩⟩
  rw [HHn.out] at hH hH2 ⊢
  rw [HPn.out] at hP hP2 ⊢
  rw [HBn.out] at hb hb2 ⊢
  obtain ⟨q, Hq⟩ : ∃ q, Hid (w.heap.size = q) := ⟨_, ⟨rfl⟩⟩
  obtain ⟨A, HA⟩ : ∃ x, Hid (na s nm g i (.slice ha hn hc) (.slice pa pn pc) (.slice ba bn bc) = x) := ⟨_, ⟨rfl⟩⟩
  obtain ⟨A2, HA2⟩ : ∃ x, Hid (na s nm g i (.slice ha2 hn hc2) (.slice pa2 pn pc2) (.slice ba2 bn bc2) = x) := ⟨_, ⟨rfl⟩⟩
  obtain ⟨wa, Hwa⟩ : ∃ x, Hid (w.alloc (.cells A 27) = x) := ⟨_, ⟨rfl⟩⟩
  obtain ⟨r, Hr⟩ : ∃ q, Hid (wa.heap.size = q) := ⟨_, ⟨rfl⟩⟩
  obtain ⟨w1, Hw1⟩ : ∃ x, Hid (wa.alloc (.cells A2 27) = x) := ⟨_, ⟨rfl⟩⟩
  have HBa : Hid (Below w.heap.size w wa) := ⟨by rw [← Hwa.out]; exact (Below.refl _ w).alloc (Nat.le_refl _) _⟩
  have HBb : Hid (Below wa.heap.size wa w1) := ⟨by rw [← Hw1.out]; exact (Below.refl _ wa).alloc (Nat.le_refl _) _⟩
  have HB1 : Hid (Below w.heap.size w w1) := ⟨HBa.out.trans (HBb.out.mono HBa.out.size)⟩
  have HXa : Hid (wa.heap[q]? = some (.cells A 27 (0, 0))) := ⟨by rw [← Hwa.out, ← Hq.out]; exact heap_alloc_new w _⟩
  have HX1 : Hid (w1.heap[q]? = some (.cells A 27 (0, 0))) := ⟨(HBb.out.block q (Array.getElem?_eq_some_iff.1 HXa.out).1).trans HXa.out⟩
  have HY1 : Hid (w1.heap[r]? = some (.cells A2 27 (0, 0))) := ⟨by rw [← Hw1.out, ← Hr.out]; exact heap_alloc_new wa _⟩
  have HXx : Hid (∀ wx, Below w1.heap.size w1 wx → wx.heap[q]? = some (.cells A 27 (0, 0))) := ⟨fun wx h => (h.block q (Array.getElem?_eq_some_iff.1 HX1.out).1).trans HX1.out⟩
  have HXy : Hid (∀ wx, Below w1.heap.size w1 wx → wx.heap[r]? = some (.cells A2 27 (0, 0))) := ⟨fun wx h => (h.block r (Array.getElem?_eq_some_iff.1 HY1.out).1).trans HY1.out⟩
  have HHx : Hid (∀ wx, Below w1.heap.size w1 wx → RdE he 2 h0 wx (.slice ha hn hc) H) := ⟨fun wx h => hH.far (Chg.ofBelow (X := []) (HB1.out.trans (h.mono HB1.out.size))) (by simp)⟩
  have HPx : Hid (∀ wx, Below w1.heap.size w1 wx → RdE pe 33 p0 wx (.slice pa pn pc) P) := ⟨fun wx h => hP.far (Chg.ofBelow (X := []) (HB1.out.trans (h.mono HB1.out.size))) (by simp)⟩
  have HHy : Hid (∀ wx, Below w1.heap.size w1 wx → RdE he 2 h0 wx (.slice ha2 hn hc2) H) := ⟨fun wx h => hH2.far (Chg.ofBelow (X := []) (HB1.out.trans (h.mono HB1.out.size))) (by simp)⟩
  have HPy : Hid (∀ wx, Below w1.heap.size w1 wx → RdE pe 33 p0 wx (.slice pa2 pn pc2) P) := ⟨fun wx h => hP2.far (Chg.ofBelow (X := []) (HB1.out.trans (h.mono HB1.out.size))) (by simp)⟩
  have HS32 := Hid.mk hs
  obtain ⟨S, HSd⟩ : ∃ S, Hid (strOfNums bs = S) := ⟨_, ⟨rfl⟩⟩
  have hcv1 : (convert 25 9 (.slice ba bn bc)).run Try.prog w1 = .ok (.string S) w1 := by rw [← HSd.out]; exact bs_str (hb.below HB1.out)
  have hcv2 : (convert 25 9 (.slice ba2 bn bc2)).run Try.prog w1 = .ok (.string S) w1 := by rw [← HSd.out]; exact bs_str (hb2.below HB1.out)
  have y0 : w1.cell? ⟨q, 0, none⟩ = some (.int .i64 s) := by rw [cell_of_row _ _ _ _ _ _ HX1.out, ← HA.out]; rfl
  have y1 : w1.cell? ⟨q, 1, none⟩ = some (.string nm) := by rw [cell_of_row _ _ _ _ _ _ HX1.out, ← HA.out]; rfl
  have y2 : w1.cell? ⟨q, 2, none⟩ = some (.int .i64 g) := by rw [cell_of_row _ _ _ _ _ _ HX1.out, ← HA.out]; rfl
  have y3 : w1.cell? ⟨q, 3, none⟩ = some (.int .i64 i) := by rw [cell_of_row _ _ _ _ _ _ HX1.out, ← HA.out]; rfl
  have y4 : w1.cell? ⟨q, 4, none⟩ = some (.slice ha hn hc) := by rw [cell_of_row _ _ _ _ _ _ HX1.out, ← HA.out]; rfl
  have y5 : w1.cell? ⟨q, 5, none⟩ = some (.slice pa pn pc) := by rw [cell_of_row _ _ _ _ _ _ HX1.out, ← HA.out]; rfl
  have y6 : w1.cell? ⟨q, 6, none⟩ = some (.slice ba bn bc) := by rw [cell_of_row _ _ _ _ _ _ HX1.out, ← HA.out]; rfl
  have z0 : w1.cell? ⟨r, 0, none⟩ = some (.int .i64 s) := by rw [cell_of_row _ _ _ _ _ _ HY1.out, ← HA2.out]; rfl
  have z1 : w1.cell? ⟨r, 1, none⟩ = some (.string nm) := by rw [cell_of_row _ _ _ _ _ _ HY1.out, ← HA2.out]; rfl
  have z2 : w1.cell? ⟨r, 2, none⟩ = some (.int .i64 g) := by rw [cell_of_row _ _ _ _ _ _ HY1.out, ← HA2.out]; rfl
  have z3 : w1.cell? ⟨r, 3, none⟩ = some (.int .i64 i) := by rw [cell_of_row _ _ _ _ _ _ HY1.out, ← HA2.out]; rfl
  have z4 : w1.cell? ⟨r, 4, none⟩ = some (.slice ha2 hn hc2) := by rw [cell_of_row _ _ _ _ _ _ HY1.out, ← HA2.out]; rfl
  have z5 : w1.cell? ⟨r, 5, none⟩ = some (.slice pa2 pn pc2) := by rw [cell_of_row _ _ _ _ _ _ HY1.out, ← HA2.out]; rfl
  have z6 : w1.cell? ⟨r, 6, none⟩ = some (.slice ba2 bn bc2) := by rw [cell_of_row _ _ _ _ _ _ HY1.out, ← HA2.out]; rfl
  clear hH hP hb hH2 hP2 hb2 hs
  rw [HA.out, HA2.out]
  go_enter Try.func14, Try.ntmps14
  go_upto_region 1 with (first | (refine wp_box rfl 27 (.tmp 0) rfl A rfl ?_; rw [Hwa.out, Hq.out]) | (refine wp_box rfl 27 (.tmp 1) rfl A2 rfl ?_; rw [Hw1.out, Hr.out]))
  go_upto_region 3 with fail
  clear hcv1 hcv2 y0 z0 y1 z1 y2 z2 y3 z3 y4 z4 y5 z5 y6 z6
  go_wp2_with fail
  go_loopg [5] hn (fun gg s wr => ∃ k : Nat, k ≤ hn ∧ hn - k ≤ gg ∧ s = .int .i64 (k : Int) ∧ Hid (Below w1.heap.size w1 wr))
  case atStart => exact ⟨0, Nat.zero_le _, by omega, rfl, ⟨Below.refl _ _⟩⟩
  case round =>
    obtain ⟨k, hk, hgg, rfl, HB⟩ := hrel
    rename World => wo
    have y4 : wo.cell? ⟨q, 4, none⟩ = some (.slice ha hn hc) := by rw [cell_of_row _ _ _ _ _ _ (HXx.out wo HB.out), ← HA.out]; rfl
    have z4 : wo.cell? ⟨r, 4, none⟩ = some (.slice ha2 hn hc2) := by rw [cell_of_row _ _ _ _ _ _ (HXy.out wo HB.out), ← HA2.out]; rfl
    have y5 : wo.cell? ⟨q, 5, none⟩ = some (.slice pa pn pc) := by rw [cell_of_row _ _ _ _ _ _ (HXx.out wo HB.out), ← HA.out]; rfl
    have z5 : wo.cell? ⟨r, 5, none⟩ = some (.slice pa2 pn pc2) := by rw [cell_of_row _ _ _ _ _ _ (HXy.out wo HB.out), ← HA2.out]; rfl
    by_cases hlt : k < hn
    · have hltz : (k : Int) < (hn : Int) := by omega
      have hkL : k < H.length := by rw [HHn.out]; exact hlt
      obtain ⟨wd, Hwd⟩ : ∃ x, Hid (wo.drew = x) := ⟨_, ⟨rfl⟩⟩
      have HBd : Hid (Below w1.heap.size w1 wd) := ⟨by rw [← Hwd.out]; exact ⟨HB.out.os, HB.out.tape, HB.out.output, HB.out.size, HB.out.block⟩⟩
      have R1 := HHx.out wd HBd.out
      have R2 := HHy.out wd HBd.out
      obtain ⟨b1, o1, d1, e1, hat1⟩ := R1.at' k hkL
      obtain ⟨b2, o2, d2, e2, hat2⟩ := R2.at' k hkL
      have hx1 := R1.each _ (getD_mem' (d := h0) hkL)
      have hcm : hc ≤ 9223372036854775807 := by
        obtain ⟨_, _, e, _, h2, _⟩ := R1.shape
        simp only [Value.slice.injEq] at e
        rw [e.2.2]; exact h2
      have hcn : hn ≤ hc := by
        obtain ⟨_, _, e, h2, _, _⟩ := R1.shape
        simp only [Value.slice.injEq] at e
        rw [e.2.2, ← HHn.out]; exact h2
      have hcm2 : hc2 ≤ 9223372036854775807 := by
        obtain ⟨_, _, e, _, h2, _⟩ := R2.shape
        simp only [Value.slice.injEq] at e
        rw [e.2.2]; exact h2
      have hcn2 : hn ≤ hc2 := by
        obtain ⟨_, _, e, h2, _, _⟩ := R2.shape
        simp only [Value.slice.injEq] at e
        rw [e.2.2, ← HHn.out]; exact h2
      rw [HHn.out] at e1 e2
      simp only [Value.slice.injEq] at e1 e2
      obtain ⟨rfl, -, rfl⟩ := e1
      obtain ⟨rfl, -, rfl⟩ := e2
      generalize H.getD k h0 = x at hat1 hat2 hx1
      have q1 : (loadVar 46 ⟨b1, o1 + k * 2, none⟩).run Try.prog wd = .ok (.agg (he x).toArray) wd := run_loadA 46 wd b1 (o1 + k * 2) (he x) _ (fun j v hv => by have hj : j < 2 := (by have := (List.getElem?_eq_some_iff.1 hv).1; rw [hx1.1] at this; exact this); rw [hat1 j hj]; exact hv) Try.underlying46 rfl (by rw [hx1.1]; exact info46)
      have q2 : (loadVar 46 ⟨b2, o2 + k * 2, none⟩).run Try.prog wd = .ok (.agg (he x).toArray) wd := run_loadA 46 wd b2 (o2 + k * 2) (he x) _ (fun j v hv => by have hj : j < 2 := (by have := (List.getElem?_eq_some_iff.1 hv).1; rw [hx1.1] at this; exact this); rw [hat2 j hj]; exact hv) Try.underlying46 rfl (by rw [hx1.1]; exact info46)
      have hq := fun (w : World) => ne46 w x
      have hg := fun (w : World) (x y : Operand) (xs ys : Array Value) => guard46 w .neq x y xs ys
      obtain ⟨cs, Hcs⟩ : ∃ cs, Hid ((he x).toArray = cs) := ⟨_, ⟨rfl⟩⟩
      rw [Hcs.out] at q1 q2
      simp only [Hcs.out] at hq
      have hS0 : (fun w' : World => w'.cell? ⟨q, 4, none⟩ = some (.slice (some ⟨b1, o1, none⟩) hn hc) ∧ w'.cell? ⟨r, 4, none⟩ = some (.slice (some ⟨b2, o2, none⟩) hn hc2) ∧ (loadVar 46 ⟨b1, o1 + k * 2, none⟩).run Try.prog w' = .ok (.agg cs) w' ∧ (loadVar 46 ⟨b2, o2 + k * 2, none⟩).run Try.prog w' = .ok (.agg cs) w') wo.drew := by
        rw [Hwd.out]
        exact ⟨by rw [cell_of_row _ _ _ _ _ _ (HXx.out wd HBd.out), ← HA.out]; rfl, by rw [cell_of_row _ _ _ _ _ _ (HXy.out wd HBd.out), ← HA2.out]; rfl, q1, q2⟩
      clear hat1 hat2 q1 q2 hx1 R1 R2
      go_upto_region 6 with fail
      clear y4 y5 z4 z5
      refine wp_region_held_drew (S := (fun w' : World => w'.cell? ⟨q, 4, none⟩ = some (.slice (some ⟨b1, o1, none⟩) hn hc) ∧ w'.cell? ⟨r, 4, none⟩ = some (.slice (some ⟨b2, o2, none⟩) hn hc2) ∧ (loadVar 46 ⟨b1, o1 + k * 2, none⟩).run Try.prog w' = .ok (.agg cs) w' ∧ (loadVar 46 ⟨b2, o2 + k * 2, none⟩).run Try.prog w' = .ok (.agg cs) w')) (by kernel_rfl) hS0 (fun hS => ?_)
      refine wpAnyH_take (i := 0) (v := .pointer (some ⟨q, 4, none⟩)) rfl (by kernel_rfl) (by kernel_rfl) (by kernel_rfl) (fun _ _ _ h => h) (Or.inl ⟨by kernel_rfl, fun wx hx => by go_simp⟩) hS ?_
      refine wpAnyH_take (i := 1) (v := .slice (some ⟨b1, o1, none⟩) hn hc) rfl (by kernel_rfl) (by kernel_rfl) (by kernel_rfl) (fun _ _ _ h => h) (Or.inl ⟨by kernel_rfl, fun wx hx => by obtain ⟨hx1, hx2, hx3, hx4⟩ := hx; go_simp⟩) hS ?_
      refine wpAnyH_take (i := 2) (v := .int .i64 (k : Int)) rfl (by kernel_rfl) (by kernel_rfl) (by kernel_rfl) (fun _ _ _ h => h) (Or.inl ⟨by kernel_rfl, fun _ _ => by kernel_rfl⟩) hS ?_
      refine wpAnyH_take (i := 3) (v := .pointer (some ⟨b1, o1 + k * 2, none⟩)) rfl (by kernel_rfl) (by kernel_rfl) (by kernel_rfl) (fun _ _ _ h => h) (Or.inl ⟨by kernel_rfl, fun wx hx => by go_simp⟩) hS ?_
      refine wpAnyH_take (i := 4) (v := .agg cs) rfl (by kernel_rfl) (by kernel_rfl) (by kernel_rfl) (fun _ _ _ h => h) (Or.inl ⟨by kernel_rfl, fun wx hx => exec_load rfl b1 (o1 + k * 2) (by kernel_rfl) hx.2.2.1⟩) hS ?_
      refine wpAnyH_take (i := 5) (v := .pointer (some ⟨r, 4, none⟩)) rfl (by kernel_rfl) (by kernel_rfl) (by kernel_rfl) (fun _ _ _ h => h) (Or.inl ⟨by kernel_rfl, fun wx hx => by go_simp⟩) hS ?_
      refine wpAnyH_take (i := 6) (v := .slice (some ⟨b2, o2, none⟩) hn hc2) rfl (by kernel_rfl) (by kernel_rfl) (by kernel_rfl) (fun _ _ _ h => h) (Or.inl ⟨by kernel_rfl, fun wx hx => by obtain ⟨hx1, hx2, hx3, hx4⟩ := hx; go_simp⟩) hS ?_
      refine wpAnyH_take (i := 7) (v := .int .i64 (k : Int)) rfl (by kernel_rfl) (by kernel_rfl) (by kernel_rfl) (fun _ _ _ h => h) (Or.inl ⟨by kernel_rfl, fun _ _ => by kernel_rfl⟩) hS ?_
      refine wpAnyH_take (i := 8) (v := .pointer (some ⟨b2, o2 + k * 2, none⟩)) rfl (by kernel_rfl) (by kernel_rfl) (by kernel_rfl) (fun _ _ _ h => h) (Or.inl ⟨by kernel_rfl, fun wx hx => by go_simp⟩) hS ?_
      refine wpAnyH_take (i := 9) (v := .agg cs) rfl (by kernel_rfl) (by kernel_rfl) (by kernel_rfl) (fun _ _ _ h => h) (Or.inl ⟨by kernel_rfl, fun wx hx => exec_load rfl b2 (o2 + k * 2) (by kernel_rfl) hx.2.2.2⟩) hS ?_
      refine wpAnyH_take (i := 10) (v := .bool false) rfl (by kernel_rfl) (by kernel_rfl) (by kernel_rfl) (fun _ _ _ h => h) (Or.inl ⟨by kernel_rfl, fun wx hx => by go_simp⟩) hS ?_
      refine wpAnyH_done (by kernel_rfl) ?_ _
      clear hS hS0
      go_simp
      rw [Hwd.out]
      go_wp2_with fail
      go_roundg (hn - (k + 1))
      case measure => omega
      case rel => exact ⟨k + 1, by omega, by omega, by go_num, HBd⟩
    · obtain rfl : hn = k := by omega
      have hltz : ¬ (hn : Int) < (hn : Int) := by omega
      go_wp2_with fail
      go_loopg [6] pn (fun gg s wr => ∃ k : Nat, k ≤ pn ∧ pn - k ≤ gg ∧ s = .int .i64 (k : Int) ∧ Hid (Below w1.heap.size w1 wr))
      case atStart => exact ⟨0, Nat.zero_le _, by omega, rfl, HB⟩
      case round =>
        obtain ⟨k, hk, hgg, rfl, HB⟩ := hrel
        rename World => wo
        have y4 : wo.cell? ⟨q, 4, none⟩ = some (.slice ha hn hc) := by rw [cell_of_row _ _ _ _ _ _ (HXx.out wo HB.out), ← HA.out]; rfl
        have z4 : wo.cell? ⟨r, 4, none⟩ = some (.slice ha2 hn hc2) := by rw [cell_of_row _ _ _ _ _ _ (HXy.out wo HB.out), ← HA2.out]; rfl
        have y5 : wo.cell? ⟨q, 5, none⟩ = some (.slice pa pn pc) := by rw [cell_of_row _ _ _ _ _ _ (HXx.out wo HB.out), ← HA.out]; rfl
        have z5 : wo.cell? ⟨r, 5, none⟩ = some (.slice pa2 pn pc2) := by rw [cell_of_row _ _ _ _ _ _ (HXy.out wo HB.out), ← HA2.out]; rfl
        by_cases hlt : k < pn
        · have hltz : (k : Int) < (pn : Int) := by omega
          have hkL : k < P.length := by rw [HPn.out]; exact hlt
          obtain ⟨wd, Hwd⟩ : ∃ x, Hid (wo.drew = x) := ⟨_, ⟨rfl⟩⟩
          have HBd : Hid (Below w1.heap.size w1 wd) := ⟨by rw [← Hwd.out]; exact ⟨HB.out.os, HB.out.tape, HB.out.output, HB.out.size, HB.out.block⟩⟩
          have R1 := HPx.out wd HBd.out
          have R2 := HPy.out wd HBd.out
          obtain ⟨b1, o1, d1, e1, hat1⟩ := R1.at' k hkL
          obtain ⟨b2, o2, d2, e2, hat2⟩ := R2.at' k hkL
          have hx1 := R1.each _ (getD_mem' (d := p0) hkL)
          have hsm := HS32.out _ (getD_mem' (d := p0) hkL)
          have hcm : pc ≤ 9223372036854775807 := by
            obtain ⟨_, _, e, _, h2, _⟩ := R1.shape
            simp only [Value.slice.injEq] at e
            rw [e.2.2]; exact h2
          have hcn : pn ≤ pc := by
            obtain ⟨_, _, e, h2, _, _⟩ := R1.shape
            simp only [Value.slice.injEq] at e
            rw [e.2.2, ← HPn.out]; exact h2
          have hcm2 : pc2 ≤ 9223372036854775807 := by
            obtain ⟨_, _, e, _, h2, _⟩ := R2.shape
            simp only [Value.slice.injEq] at e
            rw [e.2.2]; exact h2
          have hcn2 : pn ≤ pc2 := by
            obtain ⟨_, _, e, h2, _, _⟩ := R2.shape
            simp only [Value.slice.injEq] at e
            rw [e.2.2, ← HPn.out]; exact h2
          rw [HPn.out] at e1 e2
          simp only [Value.slice.injEq] at e1 e2
          obtain ⟨rfl, -, rfl⟩ := e1
          obtain ⟨rfl, -, rfl⟩ := e2
          generalize P.getD k p0 = x at hat1 hat2 hx1 hsm
          have q1 : (loadVar 49 ⟨b1, o1 + k * 33, none⟩).run Try.prog wd = .ok (.agg (pe x).toArray) wd := run_loadA 49 wd b1 (o1 + k * 33) (pe x) _ (fun j v hv => by have hj : j < 33 := (by have := (List.getElem?_eq_some_iff.1 hv).1; rw [hx1.1] at this; exact this); rw [hat1 j hj]; exact hv) Try.underlying49 rfl (by rw [hx1.1]; exact info49)
          have q2 : (loadVar 49 ⟨b2, o2 + k * 33, none⟩).run Try.prog wd = .ok (.agg (pe x).toArray) wd := run_loadA 49 wd b2 (o2 + k * 33) (pe x) _ (fun j v hv => by have hj : j < 33 := (by have := (List.getElem?_eq_some_iff.1 hv).1; rw [hx1.1] at this; exact this); rw [hat2 j hj]; exact hv) Try.underlying49 rfl (by rw [hx1.1]; exact info49)
          have hq := fun (w : World) => ne49 w x hsm
          have hg := fun (w : World) (x y : Operand) (xs ys : Array Value) => guard49 w .neq x y xs ys
          obtain ⟨cs, Hcs⟩ : ∃ cs, Hid ((pe x).toArray = cs) := ⟨_, ⟨rfl⟩⟩
          rw [Hcs.out] at q1 q2
          simp only [Hcs.out] at hq
          have hS0 : (fun w' : World => w'.cell? ⟨q, 5, none⟩ = some (.slice (some ⟨b1, o1, none⟩) pn pc) ∧ w'.cell? ⟨r, 5, none⟩ = some (.slice (some ⟨b2, o2, none⟩) pn pc2) ∧ (loadVar 49 ⟨b1, o1 + k * 33, none⟩).run Try.prog w' = .ok (.agg cs) w' ∧ (loadVar 49 ⟨b2, o2 + k * 33, none⟩).run Try.prog w' = .ok (.agg cs) w') wo.drew := by
            rw [Hwd.out]
            exact ⟨by rw [cell_of_row _ _ _ _ _ _ (HXx.out wd HBd.out), ← HA.out]; rfl, by rw [cell_of_row _ _ _ _ _ _ (HXy.out wd HBd.out), ← HA2.out]; rfl, q1, q2⟩
          clear hat1 hat2 q1 q2 hx1 R1 R2 hsm
          go_upto_region 11 with fail
          clear y4 y5 z4 z5
          refine wp_region_held_drew (S := (fun w' : World => w'.cell? ⟨q, 5, none⟩ = some (.slice (some ⟨b1, o1, none⟩) pn pc) ∧ w'.cell? ⟨r, 5, none⟩ = some (.slice (some ⟨b2, o2, none⟩) pn pc2) ∧ (loadVar 49 ⟨b1, o1 + k * 33, none⟩).run Try.prog w' = .ok (.agg cs) w' ∧ (loadVar 49 ⟨b2, o2 + k * 33, none⟩).run Try.prog w' = .ok (.agg cs) w')) (by kernel_rfl) hS0 (fun hS => ?_)
          refine wpAnyH_take (i := 0) (v := .pointer (some ⟨q, 5, none⟩)) rfl (by kernel_rfl) (by kernel_rfl) (by kernel_rfl) (fun _ _ _ h => h) (Or.inl ⟨by kernel_rfl, fun wx hx => by go_simp⟩) hS ?_
          refine wpAnyH_take (i := 1) (v := .slice (some ⟨b1, o1, none⟩) pn pc) rfl (by kernel_rfl) (by kernel_rfl) (by kernel_rfl) (fun _ _ _ h => h) (Or.inl ⟨by kernel_rfl, fun wx hx => by obtain ⟨hx1, hx2, hx3, hx4⟩ := hx; go_simp⟩) hS ?_
          refine wpAnyH_take (i := 2) (v := .int .i64 (k : Int)) rfl (by kernel_rfl) (by kernel_rfl) (by kernel_rfl) (fun _ _ _ h => h) (Or.inl ⟨by kernel_rfl, fun _ _ => by kernel_rfl⟩) hS ?_
          refine wpAnyH_take (i := 3) (v := .pointer (some ⟨b1, o1 + k * 33, none⟩)) rfl (by kernel_rfl) (by kernel_rfl) (by kernel_rfl) (fun _ _ _ h => h) (Or.inl ⟨by kernel_rfl, fun wx hx => by go_simp⟩) hS ?_
          refine wpAnyH_take (i := 4) (v := .agg cs) rfl (by kernel_rfl) (by kernel_rfl) (by kernel_rfl) (fun _ _ _ h => h) (Or.inl ⟨by kernel_rfl, fun wx hx => exec_load rfl b1 (o1 + k * 33) (by kernel_rfl) hx.2.2.1⟩) hS ?_
          refine wpAnyH_take (i := 5) (v := .pointer (some ⟨r, 5, none⟩)) rfl (by kernel_rfl) (by kernel_rfl) (by kernel_rfl) (fun _ _ _ h => h) (Or.inl ⟨by kernel_rfl, fun wx hx => by go_simp⟩) hS ?_
          refine wpAnyH_take (i := 6) (v := .slice (some ⟨b2, o2, none⟩) pn pc2) rfl (by kernel_rfl) (by kernel_rfl) (by kernel_rfl) (fun _ _ _ h => h) (Or.inl ⟨by kernel_rfl, fun wx hx => by obtain ⟨hx1, hx2, hx3, hx4⟩ := hx; go_simp⟩) hS ?_
          refine wpAnyH_take (i := 7) (v := .int .i64 (k : Int)) rfl (by kernel_rfl) (by kernel_rfl) (by kernel_rfl) (fun _ _ _ h => h) (Or.inl ⟨by kernel_rfl, fun _ _ => by kernel_rfl⟩) hS ?_
          refine wpAnyH_take (i := 8) (v := .pointer (some ⟨b2, o2 + k * 33, none⟩)) rfl (by kernel_rfl) (by kernel_rfl) (by kernel_rfl) (fun _ _ _ h => h) (Or.inl ⟨by kernel_rfl, fun wx hx => by go_simp⟩) hS ?_
          refine wpAnyH_take (i := 9) (v := .agg cs) rfl (by kernel_rfl) (by kernel_rfl) (by kernel_rfl) (fun _ _ _ h => h) (Or.inl ⟨by kernel_rfl, fun wx hx => exec_load rfl b2 (o2 + k * 33) (by kernel_rfl) hx.2.2.2⟩) hS ?_
          refine wpAnyH_take (i := 10) (v := .bool false) rfl (by kernel_rfl) (by kernel_rfl) (by kernel_rfl) (fun _ _ _ h => h) (Or.inl ⟨by kernel_rfl, fun wx hx => by go_simp⟩) hS ?_
          refine wpAnyH_done (by kernel_rfl) ?_ _
          clear hS hS0
          go_simp
          rw [Hwd.out]
          go_wp2_with fail
          go_roundg (pn - (k + 1))
          case measure => omega
          case rel => exact ⟨k + 1, by omega, by omega, by go_num, HBd⟩
        · obtain rfl : pn = k := by omega
          have hltz : ¬ (pn : Int) < (pn : Int) := by omega
          go_wp2_with fail
          go_ret
          exact ⟨rfl, HB1.out.trans (HB.out.mono HB1.out.size)⟩
end
end Go.Proofs.Ythohpbppfihoiaa
