/- Elements of a list: the note's closures. -/
import Derived.Test.YthohpbppfihoiaaX2
namespace Go.Proofs.Ythohpbppfihoiaa
open Go.RowKit Go.Lib

def hS (bs : List Int) (st : St) : Hd × St := ((strOfNums (xS bs 32 st).1, (nS bs (xS bs 32 st).2).1), (nS bs (xS bs 32 st).2).2)
def pS (bs : List Int) (st : St) : Pt × St := (((sS bs st).1, (nS bs (sS bs st).2).1), (nS bs (sS bs st).2).2)
theorem hS_in {bs : List Int} {st : St} (hb : ∀ x ∈ bs, 0 ≤ x ∧ x < 256) (h : InS bs st) : InS bs (hS bs st).2 := nS_in hb (xS_in hb 32 h)
theorem pS_in {bs : List Int} {st : St} (hb : ∀ x ∈ bs, 0 ≤ x ∧ x < 256) (h : InS bs st) : InS bs (pS bs st).2 := nS_in hb (sS_in h)
theorem run_buildG (g : Nat → Int) (n : Int) (w : World) : (Instr.build 49 #[(0, .agg (yv ((List.range 32).map g)).toArray), (1, .int .i64 n)]).run Try.prog w = .ok (.agg (pe ((List.range 32).map g, n)).toArray) w := by kernel_rfl
theorem run_buildP {s : List Int} (hs : s.length = 32) (n : Int) (w : World) : (Instr.build 49 #[(0, .agg (yv s).toArray), (1, .int .i64 n)]).run Try.prog w = .ok (.agg (pe (s, n)).toArray) w := by
  have e : s = (List.range 32).map (fun i => s.getD i 0) := by
    apply List.ext_getElem (by simp [hs])
    intro i h1 h2
    simp [List.getD, List.getElem?_eq_getElem h1]
  rw [e]
  exact run_buildG _ n w
theorem run_buildH (s : ByteArray) (n : Int) (w : World) : (Instr.build 46 #[(0, .string s), (1, .int .i64 n)]).run Try.prog w = .ok (.agg (he (s, n)).toArray) w := by kernel_rfl
theorem op_build2 {t : TypeId} {o : Oper} {a : Act} {w : World} {K : Act → World → Prop} {Q : Exit → Act → World → Prop} {u v : Value} {C : Array Value} (x y : Operand) (ho : o.op = .build t #[(0, x), (1, y)]) (hx : a.eval x = u) (hy : a.eval y = v)
    (hr : (Instr.build t #[(0, u), (1, v)]).run Try.prog w = .ok (.agg C) w) (h : K (a.put o.dst (.agg C)) w) : Oper.wp Try.prog o a w K Q := by
  unfold Oper.wp execOp
  simp only [ho, Sem.run_bind, List.map_toArray, List.map_cons, List.map_nil, hx, hy, hr, Result.andThen_ok]
  exact h
section
variable {w : World}
set_option maxHeartbeats 4000000 in
set_option maxRecDepth 100000 in
theorem held48 {B q tb : Nat} {v : Value} {bs : List Int} {st : St} (hT : Tk w q v st) (hO : Old B w v bs) (hB : B ≤ w.heap.size) (hBq : B ≤ q) (htb : w.heap[tb]? = some (.cells #[.pointer (some ⟨q, 0, none⟩)] 76 (0, 0))) (hne : tb ≠ q) (hby : ∀ x ∈ bs, 0 ≤ x ∧ x < 256) (hl : bs.length ≤ 140737488355328) : Calls Try.prog 48 #[.pointer (some ⟨tb, 0, none⟩)] w fun e w' => e = .returned (.agg (he (hS bs st).1).toArray) ∧ Tk w' q v (hS bs st).2 ∧ Chg [q] w w' := by
  obtain ⟨ZZ, HZd⟩ : ∃ Z, Hid ((he h0).toArray = Z) := ⟨_, ⟨rfl⟩⟩
  have HZZ : Hid ((Try.prog.info? 46).bind (·.zero) = some (.agg ZZ)) := ⟨by rw [← HZd.out]; exact zero46⟩
  obtain ⟨z0, Hz0⟩ : ∃ z, Hid (w.heap.size = z) := ⟨_, ⟨rfl⟩⟩
  obtain ⟨w1, Hw1⟩ : ∃ x, Hid (w.alloc (.cells ZZ 46) = x) := ⟨_, ⟨rfl⟩⟩
  have HB1 : Hid (Below w.heap.size w w1) := ⟨by rw [← Hw1.out]; exact (Below.refl _ w).alloc (Nat.le_refl _) _⟩
  have Hr1 : Hid (w1.heap[z0]? = some (.cells ZZ 46 (0, 0))) := ⟨by rw [← Hw1.out, ← Hz0.out]; exact heap_alloc_new w _⟩
  obtain ⟨w2, Hw2⟩ : ∃ x, Hid (w1.drew = x) := ⟨_, ⟨rfl⟩⟩
  have HB2 : Hid (Below w.heap.size w w2) := ⟨by rw [← Hw2.out]; exact ⟨HB1.out.os, HB1.out.tape, HB1.out.output, HB1.out.size, HB1.out.block⟩⟩
  have Hr2 : Hid (w2.heap[z0]? = some (.cells ZZ 46 (0, 0))) := ⟨by rw [← Hw2.out]; exact Hr1.out⟩
  have HT2 : Hid (Tk w2 q v st) := ⟨hT.far (Chg.ofBelow (X := []) HB2.out) (by simp)⟩
  have Hqz : Hid (q < z0) := ⟨by rw [← Hz0.out]; exact hT.lt⟩
  have Htz : Hid (tb < z0) := ⟨by rw [← Hz0.out]; exact (Array.getElem?_eq_some_iff.1 htb).1⟩
  have Htb2 : Hid (w2.heap[tb]? = some (.cells #[.pointer (some ⟨q, 0, none⟩)] 76 (0, 0))) := ⟨(HB2.out.block tb (by rw [Hz0.out]; exact Htz.out)).trans htb⟩
  have HO2 : Hid (Old B w2 v bs) := ⟨hO.on (HB2.out.mono hB)⟩
  have hcl : ∀ W : World, Chg [q] w2 W → W.cell? ⟨tb, 0, none⟩ = some (.pointer (some ⟨q, 0, none⟩)) := fun W h => by
    rw [cell_of_row _ _ _ _ _ _ ((h.block tb (Array.getElem?_eq_some_iff.1 Htb2.out).1 (by simpa using hne)).trans Htb2.out)]; rfl
  have HCl := Hid.mk hcl
  have hS0 : (fun w' => w'.cell? ⟨tb, 0, none⟩ = some (.pointer (some ⟨q, 0, none⟩))) w1.drew := by rw [Hw2.out]; exact hcl w2 (Chg.refl _ _)
  obtain ⟨⟨E, sE⟩, HE⟩ : ∃ r, Hid (hS bs st = r) := ⟨_, ⟨rfl⟩⟩
  have t1 := name46 HT2.out HO2.out hby hl
  have t2 : ∀ W : World, Tk W q v (xS bs 32 st).2 → Old B W v bs → Calls Try.prog 45 #[.pointer (some ⟨q, 0, none⟩)] W fun r w' => r = .returned (.int .i64 (nS bs (xS bs 32 st).2).1) ∧ Tk w' q v (nS bs (xS bs 32 st).2).2 ∧ Chg [q] W w' := fun W h k => num45 h k hby
  obtain ⟨⟨ps, s1⟩, Hx⟩ : ∃ r, Hid (xS bs 32 st = r) := ⟨_, ⟨rfl⟩⟩
  rw [Hx.out] at t1 t2
  obtain ⟨⟨n, s2⟩, Hn⟩ : ∃ r, Hid (nS bs s1 = r) := ⟨_, ⟨rfl⟩⟩
  simp only at t1 t2
  rw [Hn.out] at t2
  simp only at t2
  obtain ⟨nm, Hnm⟩ : ∃ r, Hid (strOfNums ps = r) := ⟨_, ⟨rfl⟩⟩
  rw [Hnm.out] at t1
  have HEE : Hid (E = (nm, n) ∧ sE = s2) := ⟨by
    have h := HE.out
    unfold hS at h
    simp only [Hx.out, Hn.out, Hnm.out, Prod.mk.injEq] at h
    exact ⟨h.1.symm, h.2.symm⟩⟩
  obtain ⟨C, HC⟩ : ∃ r, Hid ((he (nm, n)).toArray = r) := ⟨_, ⟨rfl⟩⟩
  have hbd : ∀ W : World, (Instr.build 46 #[(0, .string nm), (1, .int .i64 n)]).run Try.prog W = .ok (.agg C) W := fun W => by rw [← HC.out]; exact run_buildH nm n W
  have HCs : Hid (C.size = 2) := ⟨by rw [← HC.out]; rfl⟩
  have HCo : Hid (C.all (·.oneCell') = true) := ⟨by rw [← HC.out]; simp [he, Value.oneCell']⟩
  have HZs : Hid (ZZ.size = C.size) := ⟨by rw [HCs.out, ← HZd.out]; rfl⟩
  have HCi : Hid ((Try.prog.info? 46).map (·.size) = some C.size) := ⟨by rw [HCs.out]; exact info46⟩
  have HBq := Hid.mk hBq
  have Hne := Hid.mk hne
  rw [HE.out]
  obtain ⟨rfl, rfl⟩ := HEE.out
  simp only
  rw [HC.out]
  clear hT hO htb hl hcl 
  go_enter Try.func48, Try.ntmps48
  go_upto_region 1 with (refine wp_newZ HZZ.out rfl rfl ?_; rw [Hz0.out, Hw1.out])
  refine wp_region_held_drew (S := (fun w' => w'.cell? ⟨tb, 0, none⟩ = some (.pointer (some ⟨q, 0, none⟩)))) (by kernel_rfl) hS0 (fun hS => ?_)
  refine wpAnyH_take (i := 0) (v := .pointer (some ⟨q, 0, none⟩)) rfl (by kernel_rfl) (by kernel_rfl) (by kernel_rfl) (fun _ _ _ h => h) (Or.inl ⟨by kernel_rfl, fun wx hx => by go_simp⟩) hS ?_
  refine wpAnyH_take (i := 2) (v := .pointer (some ⟨q, 0, none⟩)) rfl (by kernel_rfl) (by kernel_rfl) (by kernel_rfl) (fun _ _ _ h => h) (Or.inl ⟨by kernel_rfl, fun wx hx => by go_simp⟩) hS ?_
  clear hS
  rw [Hw2.out]
  refine wpAnyH_ready (rs := [1]) (by kernel_rfl) (by simp) (AllReadyH.cons rfl (fun Kc hK => ?_) AllReadyH.nil)
  go_simp
  refine t1.mono ?_
  rintro e w3 ⟨rfl, hT3, hC3⟩
  have HT3 := Hid.mk hT3
  have HC3 := Hid.mk hC3
  have HO3 : Hid (Old B w3 v bs) := ⟨HO2.out.on (hC3.below (Nat.le_trans hB HB2.out.size) (by simpa using HBq.out))⟩
  clear hT3 hC3 t1
  refine hK.out _ _ (HCl.out w3 HC3.out) (fun hS => ?_)
  clear hK
  refine wpAnyH_ready (rs := [3]) (by kernel_rfl) (by simp) (AllReadyH.cons rfl (fun Kc hK => ?_) AllReadyH.nil)
  go_simp
  refine (t2 w3 HT3.out HO3.out).mono ?_
  rintro e w4 ⟨rfl, hT4, hC4⟩
  have HT4 := Hid.mk hT4
  have HC4 : Hid (Chg [q] w2 w4) := ⟨HC3.out.trans hC4⟩
  clear hT4 hC4 t2
  have Hr4 : Hid (w4.heap[z0]? = some (.cells ZZ 46 (0, 0))) := ⟨(HC4.out.block z0 (Array.getElem?_eq_some_iff.1 Hr2.out).1 (by simp; have := Hqz.out; omega)).trans Hr2.out⟩
  obtain ⟨w5, Hw5⟩ : ∃ x, Hid (w4.setRow z0 C = x) := ⟨_, ⟨rfl⟩⟩
  have HG5 : Hid (Chg [z0] w4 w5) := ⟨by rw [← Hw5.out]; exact ⟨rfl, rfl, rfl, by simp, fun k hk hx => setRow_other _ _ k _ (by simpa using hx)⟩⟩
  have Hr5 : Hid (w5.heap[z0]? = some (.cells C 46 (0, 0))) := ⟨by rw [← Hw5.out]; exact setRow_heap _ _ _ _ 46 (0, 0) Hr4.out⟩
  have HT5 : Hid (Tk w5 q v sE) := ⟨HT4.out.far HG5.out (by simp; have := Hqz.out; omega)⟩
  have hc5 : w5.cell? ⟨tb, 0, none⟩ = some (.pointer (some ⟨q, 0, none⟩)) := by
    rw [HG5.out.cell (a := ⟨tb, 0, none⟩) (World.block_lt_of_cell? _ _ (HCl.out w4 HC4.out)) (by simp; have := Htz.out; omega)]
    exact HCl.out w4 HC4.out
  refine hK.out _ _ (HCl.out w4 HC4.out) (fun hS => ?_)
  clear hK
  refine wpAnyH_take (i := 4) (v := .agg C) rfl (by kernel_rfl) (by kernel_rfl) (by kernel_rfl) (fun _ _ _ h => h) (Or.inl ⟨by kernel_rfl, fun wx hx => by simp [execOp, Act.eval, hbd]⟩) hS ?_
  refine wpAnyH_ready (rs := [5]) (by kernel_rfl) (by simp) (AllReadyH.cons rfl (fun Kc hK => ?_) AllReadyH.nil)
  refine rdy_of (by kernel_rfl) ?_
  refine wp_store_row 46 (.tmp 1) (.tmp 6) rfl z0 C (by kernel_rfl) (by kernel_rfl) 46 ZZ Hr4.out HCi.out HZs.out HCo.out ?_
  rw [Hw5.out]
  refine hK.out _ _ hc5 (fun hS => ?_)
  clear hK
  refine wpAnyH_done (by kernel_rfl) ?_ _
  clear hS hS0 hc5 hbd
  go_simp
  go_wp2_with fail
  refine bodyPost_ret (results_cell_row rfl _ w5 z0 46 C (0, 0) _ (by kernel_rfl) Hr5.out Try.underlying46 rfl HCi.out) rfl ?_
  exact ⟨rfl, HT5.out, ((Chg.ofBelow (X := [q]) HB2.out).trans HC4.out).thenNew HG5.out (fun x hx => by simp at hx; subst hx; right; rw [Hz0.out]; exact Nat.le_refl _)⟩
set_option maxHeartbeats 4000000 in
set_option maxRecDepth 100000 in
theorem part50 {B q tb : Nat} {v : Value} {bs : List Int} {st : St} (hT : Tk w q v st) (hO : Old B w v bs) (hB : B ≤ w.heap.size) (hBq : B ≤ q) (htb : w.heap[tb]? = some (.cells #[.pointer (some ⟨q, 0, none⟩)] 76 (0, 0))) (hne : tb ≠ q) (hby : ∀ x ∈ bs, 0 ≤ x ∧ x < 256) (hl : bs.length ≤ 140737488355328) (hin : InS bs st) : Calls Try.prog 50 #[.pointer (some ⟨tb, 0, none⟩)] w fun e w' => e = .returned (.agg (pe (pS bs st).1).toArray) ∧ Tk w' q v (pS bs st).2 ∧ Chg [q] w w' := by
  obtain ⟨ZZ, HZd⟩ : ∃ Z, Hid ((pe pz).toArray = Z) := ⟨_, ⟨rfl⟩⟩
  have HZZ : Hid ((Try.prog.info? 49).bind (·.zero) = some (.agg ZZ)) := ⟨by rw [← HZd.out]; exact zero49⟩
  obtain ⟨z0, Hz0⟩ : ∃ z, Hid (w.heap.size = z) := ⟨_, ⟨rfl⟩⟩
  obtain ⟨w1, Hw1⟩ : ∃ x, Hid (w.alloc (.cells ZZ 49) = x) := ⟨_, ⟨rfl⟩⟩
  have HB1 : Hid (Below w.heap.size w w1) := ⟨by rw [← Hw1.out]; exact (Below.refl _ w).alloc (Nat.le_refl _) _⟩
  have Hr1 : Hid (w1.heap[z0]? = some (.cells ZZ 49 (0, 0))) := ⟨by rw [← Hw1.out, ← Hz0.out]; exact heap_alloc_new w _⟩
  obtain ⟨w2, Hw2⟩ : ∃ x, Hid (w1.drew = x) := ⟨_, ⟨rfl⟩⟩
  have HB2 : Hid (Below w.heap.size w w2) := ⟨by rw [← Hw2.out]; exact ⟨HB1.out.os, HB1.out.tape, HB1.out.output, HB1.out.size, HB1.out.block⟩⟩
  have Hr2 : Hid (w2.heap[z0]? = some (.cells ZZ 49 (0, 0))) := ⟨by rw [← Hw2.out]; exact Hr1.out⟩
  have HT2 : Hid (Tk w2 q v st) := ⟨hT.far (Chg.ofBelow (X := []) HB2.out) (by simp)⟩
  have Hqz : Hid (q < z0) := ⟨by rw [← Hz0.out]; exact hT.lt⟩
  have Htz : Hid (tb < z0) := ⟨by rw [← Hz0.out]; exact (Array.getElem?_eq_some_iff.1 htb).1⟩
  have Htb2 : Hid (w2.heap[tb]? = some (.cells #[.pointer (some ⟨q, 0, none⟩)] 76 (0, 0))) := ⟨(HB2.out.block tb (by rw [Hz0.out]; exact Htz.out)).trans htb⟩
  have HO2 : Hid (Old B w2 v bs) := ⟨hO.on (HB2.out.mono hB)⟩
  have hcl : ∀ W : World, Chg [q] w2 W → W.cell? ⟨tb, 0, none⟩ = some (.pointer (some ⟨q, 0, none⟩)) := fun W h => by
    rw [cell_of_row _ _ _ _ _ _ ((h.block tb (Array.getElem?_eq_some_iff.1 Htb2.out).1 (by simpa using hne)).trans Htb2.out)]; rfl
  have HCl := Hid.mk hcl
  have hS0 : (fun w' => w'.cell? ⟨tb, 0, none⟩ = some (.pointer (some ⟨q, 0, none⟩))) w1.drew := by rw [Hw2.out]; exact hcl w2 (Chg.refl _ _)
  obtain ⟨⟨E, sE⟩, HE⟩ : ∃ r, Hid (pS bs st = r) := ⟨_, ⟨rfl⟩⟩
  have t1 := sum51 HT2.out HO2.out (Nat.le_trans hB HB2.out.size) hin (by omega)
  have t2 : ∀ W : World, Tk W q v (sS bs st).2 → Old B W v bs → Calls Try.prog 45 #[.pointer (some ⟨q, 0, none⟩)] W fun r w' => r = .returned (.int .i64 (nS bs (sS bs st).2).1) ∧ Tk w' q v (nS bs (sS bs st).2).2 ∧ Chg [q] W w' := fun W h k => num45 h k hby
  have hl32 := sS_len bs st hin
  obtain ⟨⟨ps, s1⟩, Hx⟩ : ∃ r, Hid (sS bs st = r) := ⟨_, ⟨rfl⟩⟩
  rw [Hx.out] at t1 t2 hl32
  obtain ⟨⟨n, s2⟩, Hn⟩ : ∃ r, Hid (nS bs s1 = r) := ⟨_, ⟨rfl⟩⟩
  simp only at t1 t2 hl32
  rw [Hn.out] at t2
  simp only at t2
  obtain ⟨nm, Hnm⟩ : ∃ r, Hid ((yv ps).toArray = r) := ⟨_, ⟨rfl⟩⟩
  rw [Hnm.out] at t1
  have HEE : Hid (E = (ps, n) ∧ sE = s2) := ⟨by
    have h := HE.out
    unfold pS at h
    simp only [Hx.out, Hn.out, Prod.mk.injEq] at h
    exact ⟨h.1.symm, h.2.symm⟩⟩
  obtain ⟨C, HC⟩ : ∃ r, Hid ((pe (ps, n)).toArray = r) := ⟨_, ⟨rfl⟩⟩
  have hbd : ∀ W : World, (Instr.build 49 #[(0, .agg nm), (1, .int .i64 n)]).run Try.prog W = .ok (.agg C) W := fun W => by rw [← HC.out, ← Hnm.out]; exact run_buildP hl32 n W
  have HCs : Hid (C.size = 33) := ⟨by rw [← HC.out]; simp [pe, hl32]⟩
  have HCo : Hid (C.all (·.oneCell') = true) := ⟨by
    rw [← HC.out, List.all_toArray, List.all_eq_true]
    intro u hu
    unfold pe at hu
    simp only [List.mem_append, List.mem_map, List.mem_singleton] at hu
    rcases hu with ⟨z, _, rfl⟩ | rfl <;> rfl⟩
  have HZs : Hid (ZZ.size = C.size) := ⟨by rw [HCs.out, ← HZd.out]; rfl⟩
  have HCi : Hid ((Try.prog.info? 49).map (·.size) = some C.size) := ⟨by rw [HCs.out]; exact info49⟩
  have HBq := Hid.mk hBq
  have Hne := Hid.mk hne
  rw [HE.out]
  obtain ⟨rfl, rfl⟩ := HEE.out
  simp only
  rw [HC.out]
  clear hT hO htb hl hcl hin
  go_enter Try.func50, Try.ntmps50
  go_upto_region 1 with (refine wp_newZ HZZ.out rfl rfl ?_; rw [Hz0.out, Hw1.out])
  refine wp_region_held_drew (S := (fun w' => w'.cell? ⟨tb, 0, none⟩ = some (.pointer (some ⟨q, 0, none⟩)))) (by kernel_rfl) hS0 (fun hS => ?_)
  refine wpAnyH_take (i := 0) (v := .pointer (some ⟨q, 0, none⟩)) rfl (by kernel_rfl) (by kernel_rfl) (by kernel_rfl) (fun _ _ _ h => h) (Or.inl ⟨by kernel_rfl, fun wx hx => by go_simp⟩) hS ?_
  refine wpAnyH_take (i := 2) (v := .pointer (some ⟨q, 0, none⟩)) rfl (by kernel_rfl) (by kernel_rfl) (by kernel_rfl) (fun _ _ _ h => h) (Or.inl ⟨by kernel_rfl, fun wx hx => by go_simp⟩) hS ?_
  clear hS
  rw [Hw2.out]
  refine wpAnyH_ready (rs := [1]) (by kernel_rfl) (by simp) (AllReadyH.cons rfl (fun Kc hK => ?_) AllReadyH.nil)
  go_simp
  refine t1.mono ?_
  rintro e w3 ⟨rfl, hT3, hC3⟩
  have HT3 := Hid.mk hT3
  have HC3 := Hid.mk hC3
  have HO3 : Hid (Old B w3 v bs) := ⟨HO2.out.on (hC3.below (Nat.le_trans hB HB2.out.size) (by simpa using HBq.out))⟩
  clear hT3 hC3 t1
  refine hK.out _ _ (HCl.out w3 HC3.out) (fun hS => ?_)
  clear hK
  refine wpAnyH_ready (rs := [3]) (by kernel_rfl) (by simp) (AllReadyH.cons rfl (fun Kc hK => ?_) AllReadyH.nil)
  go_simp
  refine (t2 w3 HT3.out HO3.out).mono ?_
  rintro e w4 ⟨rfl, hT4, hC4⟩
  have HT4 := Hid.mk hT4
  have HC4 : Hid (Chg [q] w2 w4) := ⟨HC3.out.trans hC4⟩
  clear hT4 hC4 t2
  have Hr4 : Hid (w4.heap[z0]? = some (.cells ZZ 49 (0, 0))) := ⟨(HC4.out.block z0 (Array.getElem?_eq_some_iff.1 Hr2.out).1 (by simp; have := Hqz.out; omega)).trans Hr2.out⟩
  obtain ⟨w5, Hw5⟩ : ∃ x, Hid (w4.setRow z0 C = x) := ⟨_, ⟨rfl⟩⟩
  have HG5 : Hid (Chg [z0] w4 w5) := ⟨by rw [← Hw5.out]; exact ⟨rfl, rfl, rfl, by simp, fun k hk hx => setRow_other _ _ k _ (by simpa using hx)⟩⟩
  have Hr5 : Hid (w5.heap[z0]? = some (.cells C 49 (0, 0))) := ⟨by rw [← Hw5.out]; exact setRow_heap _ _ _ _ 49 (0, 0) Hr4.out⟩
  have HT5 : Hid (Tk w5 q v sE) := ⟨HT4.out.far HG5.out (by simp; have := Hqz.out; omega)⟩
  have hc5 : w5.cell? ⟨tb, 0, none⟩ = some (.pointer (some ⟨q, 0, none⟩)) := by
    rw [HG5.out.cell (a := ⟨tb, 0, none⟩) (World.block_lt_of_cell? _ _ (HCl.out w4 HC4.out)) (by simp; have := Htz.out; omega)]
    exact HCl.out w4 HC4.out
  refine hK.out _ _ (HCl.out w4 HC4.out) (fun hS => ?_)
  clear hK
  refine wpAnyH_take (i := 4) (v := .agg C) rfl (by kernel_rfl) (by kernel_rfl) (by kernel_rfl) (fun _ _ _ h => h) (Or.inl ⟨by kernel_rfl, fun wx hx => by simp [execOp, Act.eval, hbd]⟩) hS ?_
  refine wpAnyH_ready (rs := [5]) (by kernel_rfl) (by simp) (AllReadyH.cons rfl (fun Kc hK => ?_) AllReadyH.nil)
  refine rdy_of (by kernel_rfl) ?_
  refine wp_store_row 49 (.tmp 1) (.tmp 6) rfl z0 C (by kernel_rfl) (by kernel_rfl) 49 ZZ Hr4.out HCi.out HZs.out HCo.out ?_
  rw [Hw5.out]
  refine hK.out _ _ hc5 (fun hS => ?_)
  clear hK
  refine wpAnyH_done (by kernel_rfl) ?_ _
  clear hS hS0 hc5 hbd
  go_simp
  go_wp2_with fail
  refine bodyPost_ret (results_cell_row rfl _ w5 z0 49 C (0, 0) _ (by kernel_rfl) Hr5.out Try.underlying49 rfl HCi.out) rfl ?_
  exact ⟨rfl, HT5.out, ((Chg.ofBelow (X := [q]) HB2.out).trans HC4.out).thenNew HG5.out (fun x hx => by simp at hx; subst hx; right; rw [Hz0.out]; exact Nat.le_refl _)⟩
end
end Go.Proofs.Ythohpbppfihoiaa
