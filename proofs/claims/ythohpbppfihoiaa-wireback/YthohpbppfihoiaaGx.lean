/- Texts joined into one: X50, X51, X52, X53, X54, X55, X56, X57. -/
import Derived.Test.YthohpbppfihoiaaX5
/- The taker's note: a kind that is none. -/
namespace Go.Proofs.Ythohpbppfihoiaa
open Go.RowKit Go.Lib

section
variable {w : World}
set_option maxHeartbeats 8000000 in
set_option maxRecDepth 100000 in
theorem note_0 {B q : Nat} {v : Value} {bs : List Int} {st : St} (hT : Tk w q v st) (hO : Old B w v bs) (hB : B ≤ w.heap.size) (hBq : B ≤ q) (hby : ∀ x ∈ bs, 0 ≤ x ∧ x < 256) (hl : bs.length ≤ 140737488355328) (hin : InS bs st) (hs : isS (nS bs st).1 = false) :
    Calls Try.prog 31 #[.pointer (some ⟨q, 0, none⟩)] w fun e w' => NoteP w w' q v (noteS bs st).1 (noteS bs st).2 e := by
  have hmf : ∀ (fn : Fn) (first cap : Array Value) (w : World), (Instr.makeFunc fn first cap).run Try.prog w = .ok (.func fn first cap) w := fun _ _ _ _ => rfl
  have HO := Hid.mk hO
  have HBz := Hid.mk hB
  have HBq := Hid.mk hBq
  have Hby := Hid.mk hby
  have Hl := Hid.mk hl
  obtain ⟨tb, Htb⟩ : ∃ x, Hid (w.heap.size = x) := ⟨_, ⟨rfl⟩⟩
  obtain ⟨wa, Hwa⟩ : ∃ x, Hid (w.alloc (.cells #[.pointer (some ⟨q, 0, none⟩)] 76) = x) := ⟨_, ⟨rfl⟩⟩
  obtain ⟨r2, Hr2⟩ : ∃ x, Hid (wa.heap.size = x) := ⟨_, ⟨rfl⟩⟩
  obtain ⟨w2, Hw2⟩ : ∃ x, Hid (wa.alloc (.cells zn 27) = x) := ⟨_, ⟨rfl⟩⟩
  have HBa : Hid (Below w.heap.size w wa) := ⟨by rw [← Hwa.out]; exact (Below.refl _ w).alloc (Nat.le_refl _) _⟩
  have HBb : Hid (Below wa.heap.size wa w2) := ⟨by rw [← Hw2.out]; exact (Below.refl _ wa).alloc (Nat.le_refl _) _⟩
  have HB2 : Hid (Below w.heap.size w w2) := ⟨HBa.out.trans (HBb.out.mono HBa.out.size)⟩
  have Hqt : Hid (q < tb) := ⟨by rw [← Htb.out]; exact hT.lt⟩
  have Htr : Hid (tb < r2) := ⟨by rw [← Hr2.out, ← Hwa.out, ← Htb.out]; simp⟩
  have HT2 : Hid (Tk w2 q v st) := ⟨hT.far (Chg.ofBelow (X := []) HB2.out) (by simp)⟩
  have Hba : Hid (wa.heap[tb]? = some (.cells #[.pointer (some ⟨q, 0, none⟩)] 76 (0, 0))) := ⟨by rw [← Hwa.out, ← Htb.out]; exact heap_alloc_new w _⟩
  have Hb2 : Hid (w2.heap[tb]? = some (.cells #[.pointer (some ⟨q, 0, none⟩)] 76 (0, 0))) := ⟨(HBb.out.block tb (by rw [Hr2.out]; exact Htr.out)).trans Hba.out⟩
  have Hz2 : Hid (w2.heap[r2]? = some (.cells zn 27 (0, 0))) := ⟨by rw [← Hw2.out, ← Hr2.out]; exact heap_alloc_new wa _⟩
  have HO2 : Hid (Old B w2 v bs) := ⟨HO.out.on (HB2.out.mono HBz.out)⟩
  have b2 : w2.cell? ⟨tb, 0, none⟩ = some (.pointer (some ⟨q, 0, none⟩)) := by rw [cell_of_row _ _ _ _ _ _ Hb2.out]; rfl
  have t45 := num45 HT2.out HO2.out hby
  have HIa : Hid (InS bs (nS bs st).2) := ⟨nS_in hby hin⟩
  obtain ⟨⟨n, s0⟩, Hn⟩ : ∃ r, Hid (nS bs st = r) := ⟨_, ⟨rfl⟩⟩
  rw [Hn.out] at t45 HIa hs
  simp only at t45 HIa hs
  have HSn := Hid.mk hs
  have HV : Hid (noteS bs st = noteK (false, false, false, false, false) bs n (flS s0 4)) := ⟨by unfold noteS; rw [Hn.out]; simp only; rw [if_neg (by rw [HSn.out]; decide)]⟩
  obtain ⟨R, HR⟩ : ∃ R, Hid (noteS bs st = R) := ⟨_, ⟨rfl⟩⟩
  rw [HR.out] at HV ⊢
  obtain ⟨A0, HA0⟩ : ∃ x, Hid (na n { data := #[] } 0 0 (.slice none 0 0) (.slice none 0 0) (.slice none 0 0) = x) := ⟨_, ⟨rfl⟩⟩
  obtain ⟨M, HM⟩ : ∃ x, Hid (nmV (false, false, false, false, false) = x) := ⟨_, ⟨rfl⟩⟩
  have HMs : Hid ((Try.prog.info? 40).map (·.size) = some M.size ∧ M.all (·.oneCell') = true ∧ (nmV (false, false, false, false, false)).size = M.size) := ⟨by rw [← HM.out]; exact ⟨info40, nmV_one _, rfl⟩⟩
  have HAs : Hid ((Try.prog.info? 27).map (·.size) = some A0.size ∧ A0.all (·.oneCell') = true ∧ zn.size = A0.size) := ⟨by rw [← HA0.out]; exact ⟨info27, na_one _ _ _ _ _ _ _ _ _ _ _ _ _, rfl⟩⟩
  have hbu : ∀ W : World, (Instr.build 27 #[(0, .int .i64 n)]).run Try.prog W = .ok (.agg A0) W := fun W => by rw [← HA0.out]; exact run_build27 _ W
  have t15 : ∀ W : World, Calls Try.prog 15 #[.int .i64 n] W fun e w' => e = .returned (.tuple #[.agg M, .bool false]) ∧ Below W.heap.size W w' := fun W => by
    have h := named15 (w := W) n
    rw [HSn.out, if_neg (by decide)] at h; rw [← HM.out]; exact h
  have HIb : Hid (InS bs (flS s0 4)) := ⟨flS_in HIa.out 4⟩
  clear hT hO hB hBq hby hl hin hs
  go_enter Try.func31, Try.ntmps31
  go_upto_region 1 with (refine wp_newZ zero27 rfl rfl ?_; rw [Hwa.out, Hr2.out, Hw2.out])
  rw [Htb.out]
  go_wp2_with fail
  refine t45.mono ?_
  rintro e w3 ⟨rfl, hT3, hC3⟩
  have HC3 := Hid.mk hC3
  have HT3 := Hid.mk hT3
  obtain ⟨r3, Hr3⟩ : ∃ x, Hid (w3.heap.size = x) := ⟨_, ⟨rfl⟩⟩
  obtain ⟨w4, Hw4⟩ : ∃ x, Hid ((w3.alloc (.cells zn 27)).setRow r3 A0 = x) := ⟨_, ⟨rfl⟩⟩
  have HB34 : Hid (Below w3.heap.size w3 w4) := ⟨by rw [← Hw4.out, ← Hr3.out]; exact below_setRow ((Below.refl _ w3).alloc (Nat.le_refl _) _) (Nat.le_refl _) _⟩
  have Hz34 : Hid (w4.heap[r3]? = some (.cells A0 27 (0, 0))) := ⟨by rw [← Hw4.out, ← Hr3.out]; exact setRow_heap _ _ zn _ 27 (0, 0) (heap_alloc_new w3 _)⟩
  have Hr23 : Hid (r2 < r3) := ⟨by rw [← Hr3.out]; exact Nat.lt_of_lt_of_le (Array.getElem?_eq_some_iff.1 Hz2.out).1 HC3.out.size⟩
  clear t45 hT3 hC3 b2
  go_upto_region 2 with (first
    | (refine wp_build1 (t := 27) (u := .int .i64 n) (C := A0) rfl (.tmp 7) rfl rfl (hbu _) ?_)
    | (refine wp_newZ zero27 rfl rfl ?_; rw [Hr3.out])
    | (refine wpList_store_row rfl 27 (.tmp 3) (.tmp 8) rfl r3 A0 rfl rfl 27 zn (by rw [← Hr3.out]; exact heap_alloc_new w3 _) HAs.out.1 HAs.out.2.2 HAs.out.2.1 ?_; rw [Hw4.out]))
  have k0 : w4.cell? ⟨r3, 0, none⟩ = some (.int .i64 n) := by rw [cell_of_row _ _ _ _ _ _ Hz34.out, ← HA0.out]; rfl
  clear hbu
  go_wp2_with fail
  refine (t15 w4).mono ?_
  rintro e w5 ⟨rfl, hB5⟩
  have HB5 := Hid.mk hB5
  obtain ⟨r4, Hr4⟩ : ∃ x, Hid (w5.heap.size = x) := ⟨_, ⟨rfl⟩⟩
  obtain ⟨w6, Hw6⟩ : ∃ x, Hid ((w5.alloc (.cells (nmV (false, false, false, false, false)) 40)).setRow r4 M = x) := ⟨_, ⟨rfl⟩⟩
  have HB56 : Hid (Below w5.heap.size w5 w6) := ⟨by rw [← Hw6.out, ← Hr4.out]; exact below_setRow ((Below.refl _ w5).alloc (Nat.le_refl _) _) (Nat.le_refl _) _⟩
  have Hz46 : Hid (w6.heap[r4]? = some (.cells M 40 (0, 0))) := ⟨by rw [← Hw6.out, ← Hr4.out]; exact setRow_heap _ _ (nmV (false, false, false, false, false)) _ 40 (0, 0) (heap_alloc_new w5 _)⟩
  have Hr34 : Hid (r3 < r4) := ⟨by rw [← Hr4.out]; exact Nat.lt_of_lt_of_le (Array.getElem?_eq_some_iff.1 Hz34.out).1 HB5.out.size⟩
  have Hne : Hid (q < tb ∧ tb < r2 ∧ r2 < r3 ∧ r3 < r4) := ⟨⟨Hqt.out, Htr.out, Hr23.out, Hr34.out⟩⟩
  have HB36 : Hid (Below w3.heap.size w3 w6) := ⟨HB34.out.trans ((HB5.out.trans (HB56.out.mono HB5.out.size)).mono HB34.out.size)⟩
  have HC36 : Hid (Chg [q] w2 w6) := ⟨HC3.out.trans (Chg.ofBelow HB36.out)⟩
  have HN5 : Hid (NtW w w6 q tb r2 r3 r4 v s0 A0 M) := ⟨⟨(Chg.ofBelow HB2.out).trans HC36.out, HT3.out.far (Chg.ofBelow (X := []) HB36.out) (by simp), (HC36.out.block tb (Array.getElem?_eq_some_iff.1 Hb2.out).1 (by simp; have := Hqt.out; omega)).trans Hb2.out, (HC36.out.block r2 (Array.getElem?_eq_some_iff.1 Hz2.out).1 (by simp; have := Hne.out; omega)).trans Hz2.out, ((HB5.out.trans (HB56.out.mono HB5.out.size)).block r3 (Array.getElem?_eq_some_iff.1 Hz34.out).1).trans Hz34.out, Hz46.out, by rw [Htb.out]; have := Hne.out; omega⟩⟩
  clear hB5 t15 k0
  go_upto_region 3 with (first | (refine wp_newZ zero40 rfl rfl ?_; rw [Hr4.out]) | (refine wpList_store_row rfl 40 (.tmp 4) (.tmp 13) rfl r4 M rfl rfl 40 (nmV (false, false, false, false, false)) (by rw [← Hr4.out]; exact heap_alloc_new w5 _) HMs.out.1 HMs.out.2.2 HMs.out.2.1 ?_; rw [Hw6.out]))
  have b_5 := HN5.out.cb
  have t32 := fail32 HN5.out.tk 4
  go_wp2_with fail
  refine t32.mono ?_
  rintro e w7 ⟨rfl, hT7, hC7⟩
  have HN7 : Hid (NtW w w7 q tb r2 r3 r4 v (flS s0 4) A0 M) := ⟨HN5.out.call hT7 hC7⟩
  clear b_5 t32 hT7 hC7
  have HI7 := HIb
  have b_7 := HN7.out.cb
  have m_7_0 : w7.cell? ⟨r4, 0, none⟩ = some (.bool false) := by rw [HN7.out.c4, ← HM.out]; rfl
  have m_7_1 : w7.cell? ⟨r4, 1, none⟩ = some (.bool false) := by rw [HN7.out.c4, ← HM.out]; rfl
  have m_7_2 : w7.cell? ⟨r4, 2, none⟩ = some (.bool false) := by rw [HN7.out.c4, ← HM.out]; rfl
  have m_7_3 : w7.cell? ⟨r4, 3, none⟩ = some (.bool false) := by rw [HN7.out.c4, ← HM.out]; rfl
  have m_7_4 : w7.cell? ⟨r4, 4, none⟩ = some (.bool false) := by rw [HN7.out.c4, ← HM.out]; rfl
  have HO7 : Hid (Old B w7 v bs) := ⟨HO.out.on (HN7.out.ch.below HBz.out (by simpa using HBq.out))⟩
  have HVf : Hid (R = (⟨n, { data := #[] }, 0, 0, [], [], []⟩, (flS s0 4))) := ⟨by rw [HV.out]; unfold noteK; simp only [cond_false, strOf_nil]⟩
  have HRb : Hid (R.1.s = n ∧ True) := ⟨by rw [HVf.out]; exact ⟨rfl, trivial⟩⟩
  have HAf : Hid ((Try.prog.info? 27).map (·.size) = some A0.size ∧ A0.all (·.oneCell') = true ∧ zn.size = A0.size) := ⟨by rw [← HA0.out]; exact ⟨info27, na_one _ _ _ _ _ _ _ _ _ _ _ _ _, rfl⟩⟩
  obtain ⟨wz, Hwz⟩ : ∃ x, Hid (w7.setRow r2 A0 = x) := ⟨_, ⟨rfl⟩⟩
  have HGz : Hid (Chg [r2] w7 wz) := ⟨by rw [← Hwz.out]; exact ⟨rfl, rfl, rfl, by simp, fun k hk hx => setRow_other _ _ k _ (by simpa using hx)⟩⟩
  have Hzf : Hid (wz.heap[r2]? = some (.cells A0 27 (0, 0))) := ⟨by rw [← Hwz.out]; exact setRow_heap _ _ zn _ 27 (0, 0) HN7.out.z2⟩
  have HTz : Hid (Tk wz q v (flS s0 4)) := ⟨HN7.out.tk.far HGz.out (by simp; have := Hne.out; omega)⟩
  have HCz : Hid (Chg [q] w wz) := ⟨HN7.out.ch.thenNew HGz.out (fun x hx => by simp at hx; subst hx; right; have := HN7.out.ne; omega)⟩
  go_wp2_with (first
    | (refine wp_load rfl 27 (.tmp 3) rfl r3 rfl A0 27 (0, 0) _ HN7.out.z3 Try.underlying27 rfl HAf.out.1 ?_)
    | (refine wpList_store_row rfl 27 (.tmp 2) (.tmp 49) rfl r2 A0 rfl rfl 27 zn HN7.out.z2 HAf.out.1 HAf.out.2.2 HAf.out.2.1 ?_; rw [Hwz.out]))
  refine bodyPost_ret (results_cell_row rfl _ wz r2 27 A0 (0, 0) _ (by kernel_rfl) Hzf.out Try.underlying27 rfl HAf.out.1) rfl ?_
  rw [HVf.out, ← HA0.out]
  exact ⟨none, 0, none, 0, none, 0, rfl, OwnE.nil _ _ _ _ _, OwnE.nil _ _ _ _ _, owny_nil _ _, HTz.out, HCz.out⟩
end
end Go.Proofs.Ythohpbppfihoiaa

/- The taker's note: kind 1. -/
namespace Go.Proofs.Ythohpbppfihoiaa
open Go.RowKit Go.Lib

section
variable {w : World}
set_option maxHeartbeats 8000000 in
set_option maxRecDepth 100000 in
theorem note_1 {B q : Nat} {v : Value} {bs : List Int} {st : St} (hT : Tk w q v st) (hO : Old B w v bs) (hB : B ≤ w.heap.size) (hBq : B ≤ q) (hby : ∀ x ∈ bs, 0 ≤ x ∧ x < 256) (hl : bs.length ≤ 140737488355328) (hin : InS bs st) (hs : (nS bs st).1 = 1) :
    Calls Try.prog 31 #[.pointer (some ⟨q, 0, none⟩)] w fun e w' => NoteP w w' q v (noteS bs st).1 (noteS bs st).2 e := by
  have hmf : ∀ (fn : Fn) (first cap : Array Value) (w : World), (Instr.makeFunc fn first cap).run Try.prog w = .ok (.func fn first cap) w := fun _ _ _ _ => rfl
  have HO := Hid.mk hO
  have HBz := Hid.mk hB
  have HBq := Hid.mk hBq
  have Hby := Hid.mk hby
  have Hl := Hid.mk hl
  obtain ⟨tb, Htb⟩ : ∃ x, Hid (w.heap.size = x) := ⟨_, ⟨rfl⟩⟩
  obtain ⟨wa, Hwa⟩ : ∃ x, Hid (w.alloc (.cells #[.pointer (some ⟨q, 0, none⟩)] 76) = x) := ⟨_, ⟨rfl⟩⟩
  obtain ⟨r2, Hr2⟩ : ∃ x, Hid (wa.heap.size = x) := ⟨_, ⟨rfl⟩⟩
  obtain ⟨w2, Hw2⟩ : ∃ x, Hid (wa.alloc (.cells zn 27) = x) := ⟨_, ⟨rfl⟩⟩
  have HBa : Hid (Below w.heap.size w wa) := ⟨by rw [← Hwa.out]; exact (Below.refl _ w).alloc (Nat.le_refl _) _⟩
  have HBb : Hid (Below wa.heap.size wa w2) := ⟨by rw [← Hw2.out]; exact (Below.refl _ wa).alloc (Nat.le_refl _) _⟩
  have HB2 : Hid (Below w.heap.size w w2) := ⟨HBa.out.trans (HBb.out.mono HBa.out.size)⟩
  have Hqt : Hid (q < tb) := ⟨by rw [← Htb.out]; exact hT.lt⟩
  have Htr : Hid (tb < r2) := ⟨by rw [← Hr2.out, ← Hwa.out, ← Htb.out]; simp⟩
  have HT2 : Hid (Tk w2 q v st) := ⟨hT.far (Chg.ofBelow (X := []) HB2.out) (by simp)⟩
  have Hba : Hid (wa.heap[tb]? = some (.cells #[.pointer (some ⟨q, 0, none⟩)] 76 (0, 0))) := ⟨by rw [← Hwa.out, ← Htb.out]; exact heap_alloc_new w _⟩
  have Hb2 : Hid (w2.heap[tb]? = some (.cells #[.pointer (some ⟨q, 0, none⟩)] 76 (0, 0))) := ⟨(HBb.out.block tb (by rw [Hr2.out]; exact Htr.out)).trans Hba.out⟩
  have Hz2 : Hid (w2.heap[r2]? = some (.cells zn 27 (0, 0))) := ⟨by rw [← Hw2.out, ← Hr2.out]; exact heap_alloc_new wa _⟩
  have HO2 : Hid (Old B w2 v bs) := ⟨HO.out.on (HB2.out.mono HBz.out)⟩
  have b2 : w2.cell? ⟨tb, 0, none⟩ = some (.pointer (some ⟨q, 0, none⟩)) := by rw [cell_of_row _ _ _ _ _ _ Hb2.out]; rfl
  have t45 := num45 HT2.out HO2.out hby
  have HIa : Hid (InS bs (nS bs st).2) := ⟨nS_in hby hin⟩
  obtain ⟨⟨n, s0⟩, Hn⟩ : ∃ r, Hid (nS bs st = r) := ⟨_, ⟨rfl⟩⟩
  rw [Hn.out] at t45 HIa hs
  simp only at t45 HIa hs
  subst hs
  have HV : Hid (noteS bs st = noteK (false, false, false, false, false) bs (1 : Int) s0) := ⟨by unfold noteS; rw [Hn.out]; simp only; rfl⟩
  obtain ⟨R, HR⟩ : ∃ R, Hid (noteS bs st = R) := ⟨_, ⟨rfl⟩⟩
  rw [HR.out] at HV ⊢
  obtain ⟨A0, HA0⟩ : ∃ x, Hid (na (1 : Int) { data := #[] } 0 0 (.slice none 0 0) (.slice none 0 0) (.slice none 0 0) = x) := ⟨_, ⟨rfl⟩⟩
  obtain ⟨M, HM⟩ : ∃ x, Hid (nmV (false, false, false, false, false) = x) := ⟨_, ⟨rfl⟩⟩
  have HMs : Hid ((Try.prog.info? 40).map (·.size) = some M.size ∧ M.all (·.oneCell') = true ∧ (nmV (false, false, false, false, false)).size = M.size) := ⟨by rw [← HM.out]; exact ⟨info40, nmV_one _, rfl⟩⟩
  have HAs : Hid ((Try.prog.info? 27).map (·.size) = some A0.size ∧ A0.all (·.oneCell') = true ∧ zn.size = A0.size) := ⟨by rw [← HA0.out]; exact ⟨info27, na_one _ _ _ _ _ _ _ _ _ _ _ _ _, rfl⟩⟩
  have hbu : ∀ W : World, (Instr.build 27 #[(0, .int .i64 (1 : Int))]).run Try.prog W = .ok (.agg A0) W := fun W => by rw [← HA0.out]; exact run_build27 _ W
  have t15 : ∀ W : World, Calls Try.prog 15 #[.int .i64 (1 : Int)] W fun e w' => e = .returned (.tuple #[.agg M, .bool true]) ∧ Below W.heap.size W w' := fun W => by
    have h := named15 (w := W) (1 : Int)
    rw [← HM.out]; exact h
  
  clear hT hO hB hBq hby hl hin 
  go_enter Try.func31, Try.ntmps31
  go_upto_region 1 with (refine wp_newZ zero27 rfl rfl ?_; rw [Hwa.out, Hr2.out, Hw2.out])
  rw [Htb.out]
  go_wp2_with fail
  refine t45.mono ?_
  rintro e w3 ⟨rfl, hT3, hC3⟩
  have HC3 := Hid.mk hC3
  have HT3 := Hid.mk hT3
  obtain ⟨r3, Hr3⟩ : ∃ x, Hid (w3.heap.size = x) := ⟨_, ⟨rfl⟩⟩
  obtain ⟨w4, Hw4⟩ : ∃ x, Hid ((w3.alloc (.cells zn 27)).setRow r3 A0 = x) := ⟨_, ⟨rfl⟩⟩
  have HB34 : Hid (Below w3.heap.size w3 w4) := ⟨by rw [← Hw4.out, ← Hr3.out]; exact below_setRow ((Below.refl _ w3).alloc (Nat.le_refl _) _) (Nat.le_refl _) _⟩
  have Hz34 : Hid (w4.heap[r3]? = some (.cells A0 27 (0, 0))) := ⟨by rw [← Hw4.out, ← Hr3.out]; exact setRow_heap _ _ zn _ 27 (0, 0) (heap_alloc_new w3 _)⟩
  have Hr23 : Hid (r2 < r3) := ⟨by rw [← Hr3.out]; exact Nat.lt_of_lt_of_le (Array.getElem?_eq_some_iff.1 Hz2.out).1 HC3.out.size⟩
  clear t45 hT3 hC3 b2
  go_upto_region 2 with (first
    | (refine wp_build1 (t := 27) (u := .int .i64 (1 : Int)) (C := A0) rfl (.tmp 7) rfl rfl (hbu _) ?_)
    | (refine wp_newZ zero27 rfl rfl ?_; rw [Hr3.out])
    | (refine wpList_store_row rfl 27 (.tmp 3) (.tmp 8) rfl r3 A0 rfl rfl 27 zn (by rw [← Hr3.out]; exact heap_alloc_new w3 _) HAs.out.1 HAs.out.2.2 HAs.out.2.1 ?_; rw [Hw4.out]))
  have k0 : w4.cell? ⟨r3, 0, none⟩ = some (.int .i64 (1 : Int)) := by rw [cell_of_row _ _ _ _ _ _ Hz34.out, ← HA0.out]; rfl
  clear hbu
  go_wp2_with fail
  refine (t15 w4).mono ?_
  rintro e w5 ⟨rfl, hB5⟩
  have HB5 := Hid.mk hB5
  obtain ⟨r4, Hr4⟩ : ∃ x, Hid (w5.heap.size = x) := ⟨_, ⟨rfl⟩⟩
  obtain ⟨w6, Hw6⟩ : ∃ x, Hid ((w5.alloc (.cells (nmV (false, false, false, false, false)) 40)).setRow r4 M = x) := ⟨_, ⟨rfl⟩⟩
  have HB56 : Hid (Below w5.heap.size w5 w6) := ⟨by rw [← Hw6.out, ← Hr4.out]; exact below_setRow ((Below.refl _ w5).alloc (Nat.le_refl _) _) (Nat.le_refl _) _⟩
  have Hz46 : Hid (w6.heap[r4]? = some (.cells M 40 (0, 0))) := ⟨by rw [← Hw6.out, ← Hr4.out]; exact setRow_heap _ _ (nmV (false, false, false, false, false)) _ 40 (0, 0) (heap_alloc_new w5 _)⟩
  have Hr34 : Hid (r3 < r4) := ⟨by rw [← Hr4.out]; exact Nat.lt_of_lt_of_le (Array.getElem?_eq_some_iff.1 Hz34.out).1 HB5.out.size⟩
  have Hne : Hid (q < tb ∧ tb < r2 ∧ r2 < r3 ∧ r3 < r4) := ⟨⟨Hqt.out, Htr.out, Hr23.out, Hr34.out⟩⟩
  have HB36 : Hid (Below w3.heap.size w3 w6) := ⟨HB34.out.trans ((HB5.out.trans (HB56.out.mono HB5.out.size)).mono HB34.out.size)⟩
  have HC36 : Hid (Chg [q] w2 w6) := ⟨HC3.out.trans (Chg.ofBelow HB36.out)⟩
  have HN6 : Hid (NtW w w6 q tb r2 r3 r4 v s0 A0 M) := ⟨⟨(Chg.ofBelow HB2.out).trans HC36.out, HT3.out.far (Chg.ofBelow (X := []) HB36.out) (by simp), (HC36.out.block tb (Array.getElem?_eq_some_iff.1 Hb2.out).1 (by simp; have := Hqt.out; omega)).trans Hb2.out, (HC36.out.block r2 (Array.getElem?_eq_some_iff.1 Hz2.out).1 (by simp; have := Hne.out; omega)).trans Hz2.out, ((HB5.out.trans (HB56.out.mono HB5.out.size)).block r3 (Array.getElem?_eq_some_iff.1 Hz34.out).1).trans Hz34.out, Hz46.out, by rw [Htb.out]; have := Hne.out; omega⟩⟩
  clear hB5 t15 k0
  go_upto_region 3 with (first | (refine wp_newZ zero40 rfl rfl ?_; rw [Hr4.out]) | (refine wpList_store_row rfl 40 (.tmp 4) (.tmp 13) rfl r4 M rfl rfl 40 (nmV (false, false, false, false, false)) (by rw [← Hr4.out]; exact heap_alloc_new w5 _) HMs.out.1 HMs.out.2.2 HMs.out.2.1 ?_; rw [Hw6.out]))
  have HI6 := HIa
  have b_6 := HN6.out.cb
  have m_6_0 : w6.cell? ⟨r4, 0, none⟩ = some (.bool false) := by rw [HN6.out.c4, ← HM.out]; rfl
  have m_6_1 : w6.cell? ⟨r4, 1, none⟩ = some (.bool false) := by rw [HN6.out.c4, ← HM.out]; rfl
  have m_6_2 : w6.cell? ⟨r4, 2, none⟩ = some (.bool false) := by rw [HN6.out.c4, ← HM.out]; rfl
  have m_6_3 : w6.cell? ⟨r4, 3, none⟩ = some (.bool false) := by rw [HN6.out.c4, ← HM.out]; rfl
  have m_6_4 : w6.cell? ⟨r4, 4, none⟩ = some (.bool false) := by rw [HN6.out.c4, ← HM.out]; rfl
  have HO6 : Hid (Old B w6 v bs) := ⟨HO.out.on (HN6.out.ch.below HBz.out (by simpa using HBq.out))⟩
  have HVf : Hid (R = (⟨(1 : Int), { data := #[] }, 0, 0, [], [], []⟩, s0)) := ⟨by rw [HV.out]; unfold noteK; simp only [cond_false, strOf_nil]⟩
  have HRb : Hid (R.1.s = (1 : Int) ∧ True) := ⟨by rw [HVf.out]; exact ⟨rfl, trivial⟩⟩
  have HAf : Hid ((Try.prog.info? 27).map (·.size) = some A0.size ∧ A0.all (·.oneCell') = true ∧ zn.size = A0.size) := ⟨by rw [← HA0.out]; exact ⟨info27, na_one _ _ _ _ _ _ _ _ _ _ _ _ _, rfl⟩⟩
  obtain ⟨wz, Hwz⟩ : ∃ x, Hid (w6.setRow r2 A0 = x) := ⟨_, ⟨rfl⟩⟩
  have HGz : Hid (Chg [r2] w6 wz) := ⟨by rw [← Hwz.out]; exact ⟨rfl, rfl, rfl, by simp, fun k hk hx => setRow_other _ _ k _ (by simpa using hx)⟩⟩
  have Hzf : Hid (wz.heap[r2]? = some (.cells A0 27 (0, 0))) := ⟨by rw [← Hwz.out]; exact setRow_heap _ _ zn _ 27 (0, 0) HN6.out.z2⟩
  have HTz : Hid (Tk wz q v s0) := ⟨HN6.out.tk.far HGz.out (by simp; have := Hne.out; omega)⟩
  have HCz : Hid (Chg [q] w wz) := ⟨HN6.out.ch.thenNew HGz.out (fun x hx => by simp at hx; subst hx; right; have := HN6.out.ne; omega)⟩
  go_wp2_with (first
    | (refine wp_load rfl 27 (.tmp 3) rfl r3 rfl A0 27 (0, 0) _ HN6.out.z3 Try.underlying27 rfl HAf.out.1 ?_)
    | (refine wpList_store_row rfl 27 (.tmp 2) (.tmp 49) rfl r2 A0 rfl rfl 27 zn HN6.out.z2 HAf.out.1 HAf.out.2.2 HAf.out.2.1 ?_; rw [Hwz.out]))
  refine bodyPost_ret (results_cell_row rfl _ wz r2 27 A0 (0, 0) _ (by kernel_rfl) Hzf.out Try.underlying27 rfl HAf.out.1) rfl ?_
  rw [HVf.out, ← HA0.out]
  exact ⟨none, 0, none, 0, none, 0, rfl, OwnE.nil _ _ _ _ _, OwnE.nil _ _ _ _ _, owny_nil _ _, HTz.out, HCz.out⟩
end
end Go.Proofs.Ythohpbppfihoiaa

/- The taker's note: kind 2. -/
namespace Go.Proofs.Ythohpbppfihoiaa
open Go.RowKit Go.Lib

section
variable {w : World}
set_option maxHeartbeats 8000000 in
set_option maxRecDepth 100000 in
theorem note_2 {B q : Nat} {v : Value} {bs : List Int} {st : St} (hT : Tk w q v st) (hO : Old B w v bs) (hB : B ≤ w.heap.size) (hBq : B ≤ q) (hby : ∀ x ∈ bs, 0 ≤ x ∧ x < 256) (hl : bs.length ≤ 140737488355328) (hin : InS bs st) (hs : (nS bs st).1 = 2) :
    Calls Try.prog 31 #[.pointer (some ⟨q, 0, none⟩)] w fun e w' => NoteP w w' q v (noteS bs st).1 (noteS bs st).2 e := by
  have hmf : ∀ (fn : Fn) (first cap : Array Value) (w : World), (Instr.makeFunc fn first cap).run Try.prog w = .ok (.func fn first cap) w := fun _ _ _ _ => rfl
  have HO := Hid.mk hO
  have HBz := Hid.mk hB
  have HBq := Hid.mk hBq
  have Hby := Hid.mk hby
  have Hl := Hid.mk hl
  obtain ⟨tb, Htb⟩ : ∃ x, Hid (w.heap.size = x) := ⟨_, ⟨rfl⟩⟩
  obtain ⟨wa, Hwa⟩ : ∃ x, Hid (w.alloc (.cells #[.pointer (some ⟨q, 0, none⟩)] 76) = x) := ⟨_, ⟨rfl⟩⟩
  obtain ⟨r2, Hr2⟩ : ∃ x, Hid (wa.heap.size = x) := ⟨_, ⟨rfl⟩⟩
  obtain ⟨w2, Hw2⟩ : ∃ x, Hid (wa.alloc (.cells zn 27) = x) := ⟨_, ⟨rfl⟩⟩
  have HBa : Hid (Below w.heap.size w wa) := ⟨by rw [← Hwa.out]; exact (Below.refl _ w).alloc (Nat.le_refl _) _⟩
  have HBb : Hid (Below wa.heap.size wa w2) := ⟨by rw [← Hw2.out]; exact (Below.refl _ wa).alloc (Nat.le_refl _) _⟩
  have HB2 : Hid (Below w.heap.size w w2) := ⟨HBa.out.trans (HBb.out.mono HBa.out.size)⟩
  have Hqt : Hid (q < tb) := ⟨by rw [← Htb.out]; exact hT.lt⟩
  have Htr : Hid (tb < r2) := ⟨by rw [← Hr2.out, ← Hwa.out, ← Htb.out]; simp⟩
  have HT2 : Hid (Tk w2 q v st) := ⟨hT.far (Chg.ofBelow (X := []) HB2.out) (by simp)⟩
  have Hba : Hid (wa.heap[tb]? = some (.cells #[.pointer (some ⟨q, 0, none⟩)] 76 (0, 0))) := ⟨by rw [← Hwa.out, ← Htb.out]; exact heap_alloc_new w _⟩
  have Hb2 : Hid (w2.heap[tb]? = some (.cells #[.pointer (some ⟨q, 0, none⟩)] 76 (0, 0))) := ⟨(HBb.out.block tb (by rw [Hr2.out]; exact Htr.out)).trans Hba.out⟩
  have Hz2 : Hid (w2.heap[r2]? = some (.cells zn 27 (0, 0))) := ⟨by rw [← Hw2.out, ← Hr2.out]; exact heap_alloc_new wa _⟩
  have HO2 : Hid (Old B w2 v bs) := ⟨HO.out.on (HB2.out.mono HBz.out)⟩
  have b2 : w2.cell? ⟨tb, 0, none⟩ = some (.pointer (some ⟨q, 0, none⟩)) := by rw [cell_of_row _ _ _ _ _ _ Hb2.out]; rfl
  have t45 := num45 HT2.out HO2.out hby
  have HIa : Hid (InS bs (nS bs st).2) := ⟨nS_in hby hin⟩
  obtain ⟨⟨n, s0⟩, Hn⟩ : ∃ r, Hid (nS bs st = r) := ⟨_, ⟨rfl⟩⟩
  rw [Hn.out] at t45 HIa hs
  simp only at t45 HIa hs
  subst hs
  have HV : Hid (noteS bs st = noteK (false, false, true, false, false) bs (2 : Int) s0) := ⟨by unfold noteS; rw [Hn.out]; simp only; rfl⟩
  obtain ⟨R, HR⟩ : ∃ R, Hid (noteS bs st = R) := ⟨_, ⟨rfl⟩⟩
  rw [HR.out] at HV ⊢
  obtain ⟨A0, HA0⟩ : ∃ x, Hid (na (2 : Int) { data := #[] } 0 0 (.slice none 0 0) (.slice none 0 0) (.slice none 0 0) = x) := ⟨_, ⟨rfl⟩⟩
  obtain ⟨M, HM⟩ : ∃ x, Hid (nmV (false, false, true, false, false) = x) := ⟨_, ⟨rfl⟩⟩
  have HMs : Hid ((Try.prog.info? 40).map (·.size) = some M.size ∧ M.all (·.oneCell') = true ∧ (nmV (false, false, false, false, false)).size = M.size) := ⟨by rw [← HM.out]; exact ⟨info40, nmV_one _, rfl⟩⟩
  have HAs : Hid ((Try.prog.info? 27).map (·.size) = some A0.size ∧ A0.all (·.oneCell') = true ∧ zn.size = A0.size) := ⟨by rw [← HA0.out]; exact ⟨info27, na_one _ _ _ _ _ _ _ _ _ _ _ _ _, rfl⟩⟩
  have hbu : ∀ W : World, (Instr.build 27 #[(0, .int .i64 (2 : Int))]).run Try.prog W = .ok (.agg A0) W := fun W => by rw [← HA0.out]; exact run_build27 _ W
  have t15 : ∀ W : World, Calls Try.prog 15 #[.int .i64 (2 : Int)] W fun e w' => e = .returned (.tuple #[.agg M, .bool true]) ∧ Below W.heap.size W w' := fun W => by
    have h := named15 (w := W) (2 : Int)
    rw [← HM.out]; exact h
  
  clear hT hO hB hBq hby hl hin 
  go_enter Try.func31, Try.ntmps31
  go_upto_region 1 with (refine wp_newZ zero27 rfl rfl ?_; rw [Hwa.out, Hr2.out, Hw2.out])
  rw [Htb.out]
  go_wp2_with fail
  refine t45.mono ?_
  rintro e w3 ⟨rfl, hT3, hC3⟩
  have HC3 := Hid.mk hC3
  have HT3 := Hid.mk hT3
  obtain ⟨r3, Hr3⟩ : ∃ x, Hid (w3.heap.size = x) := ⟨_, ⟨rfl⟩⟩
  obtain ⟨w4, Hw4⟩ : ∃ x, Hid ((w3.alloc (.cells zn 27)).setRow r3 A0 = x) := ⟨_, ⟨rfl⟩⟩
  have HB34 : Hid (Below w3.heap.size w3 w4) := ⟨by rw [← Hw4.out, ← Hr3.out]; exact below_setRow ((Below.refl _ w3).alloc (Nat.le_refl _) _) (Nat.le_refl _) _⟩
  have Hz34 : Hid (w4.heap[r3]? = some (.cells A0 27 (0, 0))) := ⟨by rw [← Hw4.out, ← Hr3.out]; exact setRow_heap _ _ zn _ 27 (0, 0) (heap_alloc_new w3 _)⟩
  have Hr23 : Hid (r2 < r3) := ⟨by rw [← Hr3.out]; exact Nat.lt_of_lt_of_le (Array.getElem?_eq_some_iff.1 Hz2.out).1 HC3.out.size⟩
  clear t45 hT3 hC3 b2
  go_upto_region 2 with (first
    | (refine wp_build1 (t := 27) (u := .int .i64 (2 : Int)) (C := A0) rfl (.tmp 7) rfl rfl (hbu _) ?_)
    | (refine wp_newZ zero27 rfl rfl ?_; rw [Hr3.out])
    | (refine wpList_store_row rfl 27 (.tmp 3) (.tmp 8) rfl r3 A0 rfl rfl 27 zn (by rw [← Hr3.out]; exact heap_alloc_new w3 _) HAs.out.1 HAs.out.2.2 HAs.out.2.1 ?_; rw [Hw4.out]))
  have k0 : w4.cell? ⟨r3, 0, none⟩ = some (.int .i64 (2 : Int)) := by rw [cell_of_row _ _ _ _ _ _ Hz34.out, ← HA0.out]; rfl
  clear hbu
  go_wp2_with fail
  refine (t15 w4).mono ?_
  rintro e w5 ⟨rfl, hB5⟩
  have HB5 := Hid.mk hB5
  obtain ⟨r4, Hr4⟩ : ∃ x, Hid (w5.heap.size = x) := ⟨_, ⟨rfl⟩⟩
  obtain ⟨w6, Hw6⟩ : ∃ x, Hid ((w5.alloc (.cells (nmV (false, false, false, false, false)) 40)).setRow r4 M = x) := ⟨_, ⟨rfl⟩⟩
  have HB56 : Hid (Below w5.heap.size w5 w6) := ⟨by rw [← Hw6.out, ← Hr4.out]; exact below_setRow ((Below.refl _ w5).alloc (Nat.le_refl _) _) (Nat.le_refl _) _⟩
  have Hz46 : Hid (w6.heap[r4]? = some (.cells M 40 (0, 0))) := ⟨by rw [← Hw6.out, ← Hr4.out]; exact setRow_heap _ _ (nmV (false, false, false, false, false)) _ 40 (0, 0) (heap_alloc_new w5 _)⟩
  have Hr34 : Hid (r3 < r4) := ⟨by rw [← Hr4.out]; exact Nat.lt_of_lt_of_le (Array.getElem?_eq_some_iff.1 Hz34.out).1 HB5.out.size⟩
  have Hne : Hid (q < tb ∧ tb < r2 ∧ r2 < r3 ∧ r3 < r4) := ⟨⟨Hqt.out, Htr.out, Hr23.out, Hr34.out⟩⟩
  have HB36 : Hid (Below w3.heap.size w3 w6) := ⟨HB34.out.trans ((HB5.out.trans (HB56.out.mono HB5.out.size)).mono HB34.out.size)⟩
  have HC36 : Hid (Chg [q] w2 w6) := ⟨HC3.out.trans (Chg.ofBelow HB36.out)⟩
  have HN6 : Hid (NtW w w6 q tb r2 r3 r4 v s0 A0 M) := ⟨⟨(Chg.ofBelow HB2.out).trans HC36.out, HT3.out.far (Chg.ofBelow (X := []) HB36.out) (by simp), (HC36.out.block tb (Array.getElem?_eq_some_iff.1 Hb2.out).1 (by simp; have := Hqt.out; omega)).trans Hb2.out, (HC36.out.block r2 (Array.getElem?_eq_some_iff.1 Hz2.out).1 (by simp; have := Hne.out; omega)).trans Hz2.out, ((HB5.out.trans (HB56.out.mono HB5.out.size)).block r3 (Array.getElem?_eq_some_iff.1 Hz34.out).1).trans Hz34.out, Hz46.out, by rw [Htb.out]; have := Hne.out; omega⟩⟩
  clear hB5 t15 k0
  go_upto_region 3 with (first | (refine wp_newZ zero40 rfl rfl ?_; rw [Hr4.out]) | (refine wpList_store_row rfl 40 (.tmp 4) (.tmp 13) rfl r4 M rfl rfl 40 (nmV (false, false, false, false, false)) (by rw [← Hr4.out]; exact heap_alloc_new w5 _) HMs.out.1 HMs.out.2.2 HMs.out.2.1 ?_; rw [Hw6.out]))
  have HI6 := HIa
  have b_6 := HN6.out.cb
  have m_6_0 : w6.cell? ⟨r4, 0, none⟩ = some (.bool false) := by rw [HN6.out.c4, ← HM.out]; rfl
  have m_6_1 : w6.cell? ⟨r4, 1, none⟩ = some (.bool false) := by rw [HN6.out.c4, ← HM.out]; rfl
  have m_6_2 : w6.cell? ⟨r4, 2, none⟩ = some (.bool true) := by rw [HN6.out.c4, ← HM.out]; rfl
  have m_6_3 : w6.cell? ⟨r4, 3, none⟩ = some (.bool false) := by rw [HN6.out.c4, ← HM.out]; rfl
  have m_6_4 : w6.cell? ⟨r4, 4, none⟩ = some (.bool false) := by rw [HN6.out.c4, ← HM.out]; rfl
  have HO6 : Hid (Old B w6 v bs) := ⟨HO.out.on (HN6.out.ch.below HBz.out (by simpa using HBq.out))⟩
  have tl := list47 (w := w6) HN6.out.tk HO6.out (Nat.le_trans HBz.out HN6.out.ch.size) HBq.out HN6.out.bx (by have := Hne.out; omega) Hby.out Hl.out HI6.out
  have HI7 : Hid (InS bs (lS bs 64 (hS bs) s0).2) := ⟨lS_in Hby.out _ _ (fun st h => hS_in Hby.out h) HI6.out⟩
  obtain ⟨⟨H, sd⟩, Hlst⟩ : ∃ r, Hid (lS bs 64 (hS bs) s0 = r) := ⟨_, ⟨rfl⟩⟩
  rw [Hlst.out] at tl HI7
  simp only at tl HI7
  obtain ⟨zl, Hzl⟩ : ∃ x, Hid (w6.heap.size = x) := ⟨_, ⟨rfl⟩⟩
  have Hzr : Hid (r4 < zl) := ⟨by rw [← Hzl.out]; exact (Array.getElem?_eq_some_iff.1 HN6.out.z4).1⟩
  rw [Hzl.out] at tl
  obtain ⟨nl, Hnl⟩ : ∃ x, Hid (H.length = x) := ⟨_, ⟨rfl⟩⟩
  rw [Hnl.out] at tl
  go_wp2_with fail
  refine tl.mono ?_
  rintro e wh ⟨al, cl, rfl, hOl, hT, hC⟩
  have HOl_wh := Hid.mk hOl
  have HNh : Hid (NtW w wh q tb r2 r3 r4 v sd A0 M) := ⟨HN6.out.call hT hC⟩
  obtain ⟨A1, HA1⟩ : ∃ x, Hid (na (2 : Int) { data := #[] } 0 0 (.slice al nl cl) (.slice none 0 0) (.slice none 0 0) = x) := ⟨_, ⟨rfl⟩⟩
  obtain ⟨w7, Hw7⟩ : ∃ x, Hid (wh.setCell ⟨r3, 4, none⟩ (.slice al nl cl) = x) := ⟨_, ⟨rfl⟩⟩
  have HN7 : Hid (NtW w w7 q tb r2 r3 r4 v sd A1 M) := ⟨by rw [← Hw7.out]; exact HNh.out.set 4 _ (by rw [← HA0.out, ← HA1.out]; rfl)⟩
  have HGw7 : Hid (Chg [r3] wh w7) := ⟨by rw [← Hw7.out]; exact (Chg.refl [r3] wh).setCell (.inl (by simp)) _⟩
  have kh : wh.cell? ⟨r3, 4, none⟩ = some (.slice none 0 0) := by rw [HNh.out.c3, ← HA0.out]; rfl
  have fh := HNh.out.f3 4
  clear hT hC tl hOl
  clear b_6 m_6_0 m_6_1 m_6_2 m_6_3 m_6_4
  have HOl_w7 : Hid (OwnE he 2 46 w7 zl (.slice al nl cl) H) := ⟨HOl_wh.out.far HGw7.out (fun g hg hm => by simp at hm; have := (HOl_wh.out.lt g hg).1; have := Hzr.out; have := Hne.out; omega)⟩
  go_upto_region 11 with fail
  rw [Hw7.out]
  clear kh fh
  have b_7 := HN7.out.cb
  have m_7_0 : w7.cell? ⟨r4, 0, none⟩ = some (.bool false) := by rw [HN7.out.c4, ← HM.out]; rfl
  have m_7_1 : w7.cell? ⟨r4, 1, none⟩ = some (.bool false) := by rw [HN7.out.c4, ← HM.out]; rfl
  have m_7_2 : w7.cell? ⟨r4, 2, none⟩ = some (.bool true) := by rw [HN7.out.c4, ← HM.out]; rfl
  have m_7_3 : w7.cell? ⟨r4, 3, none⟩ = some (.bool false) := by rw [HN7.out.c4, ← HM.out]; rfl
  have m_7_4 : w7.cell? ⟨r4, 4, none⟩ = some (.bool false) := by rw [HN7.out.c4, ← HM.out]; rfl
  have HO7 : Hid (Old B w7 v bs) := ⟨HO.out.on (HN7.out.ch.below HBz.out (by simpa using HBq.out))⟩
  have HVf : Hid (R = (⟨(2 : Int), { data := #[] }, 0, 0, H, [], []⟩, sd)) := ⟨by rw [HV.out]; unfold noteK; simp only [cond_true, cond_false, strOf_nil, Hlst.out]⟩
  have HRb : Hid (R.1.s = (2 : Int) ∧ True) := ⟨by rw [HVf.out]; exact ⟨rfl, trivial⟩⟩
  have HAf : Hid ((Try.prog.info? 27).map (·.size) = some A1.size ∧ A1.all (·.oneCell') = true ∧ zn.size = A1.size) := ⟨by rw [← HA1.out]; exact ⟨info27, na_one _ _ _ _ _ _ _ _ _ _ _ _ _, rfl⟩⟩
  obtain ⟨wz, Hwz⟩ : ∃ x, Hid (w7.setRow r2 A1 = x) := ⟨_, ⟨rfl⟩⟩
  have HGz : Hid (Chg [r2] w7 wz) := ⟨by rw [← Hwz.out]; exact ⟨rfl, rfl, rfl, by simp, fun k hk hx => setRow_other _ _ k _ (by simpa using hx)⟩⟩
  have Hzf : Hid (wz.heap[r2]? = some (.cells A1 27 (0, 0))) := ⟨by rw [← Hwz.out]; exact setRow_heap _ _ zn _ 27 (0, 0) HN7.out.z2⟩
  have HTz : Hid (Tk wz q v sd) := ⟨HN7.out.tk.far HGz.out (by simp; have := Hne.out; omega)⟩
  have HCz : Hid (Chg [q] w wz) := ⟨HN7.out.ch.thenNew HGz.out (fun x hx => by simp at hx; subst hx; right; have := HN7.out.ne; omega)⟩
  have HOl_wz : Hid (OwnE he 2 46 wz zl (.slice al nl cl) H) := ⟨HOl_w7.out.far HGz.out (fun g hg hm => by simp at hm; have := (HOl_w7.out.lt g hg).1; have := Hzr.out; have := Hne.out; omega)⟩
  go_wp2_with (first
    | (refine wp_load rfl 27 (.tmp 3) rfl r3 rfl A1 27 (0, 0) _ HN7.out.z3 Try.underlying27 rfl HAf.out.1 ?_)
    | (refine wpList_store_row rfl 27 (.tmp 2) (.tmp 49) rfl r2 A1 rfl rfl 27 zn HN7.out.z2 HAf.out.1 HAf.out.2.2 HAf.out.2.1 ?_; rw [Hwz.out]))
  refine bodyPost_ret (results_cell_row rfl _ wz r2 27 A1 (0, 0) _ (by kernel_rfl) Hzf.out Try.underlying27 rfl HAf.out.1) rfl ?_
  rw [HVf.out, ← HA1.out]
  exact ⟨al, cl, none, 0, none, 0, by rw [← Hnl.out]; rfl, by rw [show (H : List Hd).length = nl from Hnl.out]; exact HOl_wz.out.base (by rw [← Hzl.out]; exact HN6.out.ch.size), OwnE.nil _ _ _ _ _, owny_nil _ _, HTz.out, HCz.out⟩
end
end Go.Proofs.Ythohpbppfihoiaa

/- The taker's note: kind 3. -/
namespace Go.Proofs.Ythohpbppfihoiaa
open Go.RowKit Go.Lib

section
variable {w : World}
set_option maxHeartbeats 8000000 in
set_option maxRecDepth 100000 in
theorem note_3 {B q : Nat} {v : Value} {bs : List Int} {st : St} (hT : Tk w q v st) (hO : Old B w v bs) (hB : B ≤ w.heap.size) (hBq : B ≤ q) (hby : ∀ x ∈ bs, 0 ≤ x ∧ x < 256) (hl : bs.length ≤ 140737488355328) (hin : InS bs st) (hs : (nS bs st).1 = 3) :
    Calls Try.prog 31 #[.pointer (some ⟨q, 0, none⟩)] w fun e w' => NoteP w w' q v (noteS bs st).1 (noteS bs st).2 e := by
  have hmf : ∀ (fn : Fn) (first cap : Array Value) (w : World), (Instr.makeFunc fn first cap).run Try.prog w = .ok (.func fn first cap) w := fun _ _ _ _ => rfl
  have HO := Hid.mk hO
  have HBz := Hid.mk hB
  have HBq := Hid.mk hBq
  have Hby := Hid.mk hby
  have Hl := Hid.mk hl
  obtain ⟨tb, Htb⟩ : ∃ x, Hid (w.heap.size = x) := ⟨_, ⟨rfl⟩⟩
  obtain ⟨wa, Hwa⟩ : ∃ x, Hid (w.alloc (.cells #[.pointer (some ⟨q, 0, none⟩)] 76) = x) := ⟨_, ⟨rfl⟩⟩
  obtain ⟨r2, Hr2⟩ : ∃ x, Hid (wa.heap.size = x) := ⟨_, ⟨rfl⟩⟩
  obtain ⟨w2, Hw2⟩ : ∃ x, Hid (wa.alloc (.cells zn 27) = x) := ⟨_, ⟨rfl⟩⟩
  have HBa : Hid (Below w.heap.size w wa) := ⟨by rw [← Hwa.out]; exact (Below.refl _ w).alloc (Nat.le_refl _) _⟩
  have HBb : Hid (Below wa.heap.size wa w2) := ⟨by rw [← Hw2.out]; exact (Below.refl _ wa).alloc (Nat.le_refl _) _⟩
  have HB2 : Hid (Below w.heap.size w w2) := ⟨HBa.out.trans (HBb.out.mono HBa.out.size)⟩
  have Hqt : Hid (q < tb) := ⟨by rw [← Htb.out]; exact hT.lt⟩
  have Htr : Hid (tb < r2) := ⟨by rw [← Hr2.out, ← Hwa.out, ← Htb.out]; simp⟩
  have HT2 : Hid (Tk w2 q v st) := ⟨hT.far (Chg.ofBelow (X := []) HB2.out) (by simp)⟩
  have Hba : Hid (wa.heap[tb]? = some (.cells #[.pointer (some ⟨q, 0, none⟩)] 76 (0, 0))) := ⟨by rw [← Hwa.out, ← Htb.out]; exact heap_alloc_new w _⟩
  have Hb2 : Hid (w2.heap[tb]? = some (.cells #[.pointer (some ⟨q, 0, none⟩)] 76 (0, 0))) := ⟨(HBb.out.block tb (by rw [Hr2.out]; exact Htr.out)).trans Hba.out⟩
  have Hz2 : Hid (w2.heap[r2]? = some (.cells zn 27 (0, 0))) := ⟨by rw [← Hw2.out, ← Hr2.out]; exact heap_alloc_new wa _⟩
  have HO2 : Hid (Old B w2 v bs) := ⟨HO.out.on (HB2.out.mono HBz.out)⟩
  have b2 : w2.cell? ⟨tb, 0, none⟩ = some (.pointer (some ⟨q, 0, none⟩)) := by rw [cell_of_row _ _ _ _ _ _ Hb2.out]; rfl
  have t45 := num45 HT2.out HO2.out hby
  have HIa : Hid (InS bs (nS bs st).2) := ⟨nS_in hby hin⟩
  obtain ⟨⟨n, s0⟩, Hn⟩ : ∃ r, Hid (nS bs st = r) := ⟨_, ⟨rfl⟩⟩
  rw [Hn.out] at t45 HIa hs
  simp only at t45 HIa hs
  subst hs
  have HV : Hid (noteS bs st = noteK (true, false, false, false, false) bs (3 : Int) s0) := ⟨by unfold noteS; rw [Hn.out]; simp only; rfl⟩
  obtain ⟨R, HR⟩ : ∃ R, Hid (noteS bs st = R) := ⟨_, ⟨rfl⟩⟩
  rw [HR.out] at HV ⊢
  obtain ⟨A0, HA0⟩ : ∃ x, Hid (na (3 : Int) { data := #[] } 0 0 (.slice none 0 0) (.slice none 0 0) (.slice none 0 0) = x) := ⟨_, ⟨rfl⟩⟩
  obtain ⟨M, HM⟩ : ∃ x, Hid (nmV (true, false, false, false, false) = x) := ⟨_, ⟨rfl⟩⟩
  have HMs : Hid ((Try.prog.info? 40).map (·.size) = some M.size ∧ M.all (·.oneCell') = true ∧ (nmV (false, false, false, false, false)).size = M.size) := ⟨by rw [← HM.out]; exact ⟨info40, nmV_one _, rfl⟩⟩
  have HAs : Hid ((Try.prog.info? 27).map (·.size) = some A0.size ∧ A0.all (·.oneCell') = true ∧ zn.size = A0.size) := ⟨by rw [← HA0.out]; exact ⟨info27, na_one _ _ _ _ _ _ _ _ _ _ _ _ _, rfl⟩⟩
  have hbu : ∀ W : World, (Instr.build 27 #[(0, .int .i64 (3 : Int))]).run Try.prog W = .ok (.agg A0) W := fun W => by rw [← HA0.out]; exact run_build27 _ W
  have t15 : ∀ W : World, Calls Try.prog 15 #[.int .i64 (3 : Int)] W fun e w' => e = .returned (.tuple #[.agg M, .bool true]) ∧ Below W.heap.size W w' := fun W => by
    have h := named15 (w := W) (3 : Int)
    rw [← HM.out]; exact h
  
  clear hT hO hB hBq hby hl hin 
  go_enter Try.func31, Try.ntmps31
  go_upto_region 1 with (refine wp_newZ zero27 rfl rfl ?_; rw [Hwa.out, Hr2.out, Hw2.out])
  rw [Htb.out]
  go_wp2_with fail
  refine t45.mono ?_
  rintro e w3 ⟨rfl, hT3, hC3⟩
  have HC3 := Hid.mk hC3
  have HT3 := Hid.mk hT3
  obtain ⟨r3, Hr3⟩ : ∃ x, Hid (w3.heap.size = x) := ⟨_, ⟨rfl⟩⟩
  obtain ⟨w4, Hw4⟩ : ∃ x, Hid ((w3.alloc (.cells zn 27)).setRow r3 A0 = x) := ⟨_, ⟨rfl⟩⟩
  have HB34 : Hid (Below w3.heap.size w3 w4) := ⟨by rw [← Hw4.out, ← Hr3.out]; exact below_setRow ((Below.refl _ w3).alloc (Nat.le_refl _) _) (Nat.le_refl _) _⟩
  have Hz34 : Hid (w4.heap[r3]? = some (.cells A0 27 (0, 0))) := ⟨by rw [← Hw4.out, ← Hr3.out]; exact setRow_heap _ _ zn _ 27 (0, 0) (heap_alloc_new w3 _)⟩
  have Hr23 : Hid (r2 < r3) := ⟨by rw [← Hr3.out]; exact Nat.lt_of_lt_of_le (Array.getElem?_eq_some_iff.1 Hz2.out).1 HC3.out.size⟩
  clear t45 hT3 hC3 b2
  go_upto_region 2 with (first
    | (refine wp_build1 (t := 27) (u := .int .i64 (3 : Int)) (C := A0) rfl (.tmp 7) rfl rfl (hbu _) ?_)
    | (refine wp_newZ zero27 rfl rfl ?_; rw [Hr3.out])
    | (refine wpList_store_row rfl 27 (.tmp 3) (.tmp 8) rfl r3 A0 rfl rfl 27 zn (by rw [← Hr3.out]; exact heap_alloc_new w3 _) HAs.out.1 HAs.out.2.2 HAs.out.2.1 ?_; rw [Hw4.out]))
  have k0 : w4.cell? ⟨r3, 0, none⟩ = some (.int .i64 (3 : Int)) := by rw [cell_of_row _ _ _ _ _ _ Hz34.out, ← HA0.out]; rfl
  clear hbu
  go_wp2_with fail
  refine (t15 w4).mono ?_
  rintro e w5 ⟨rfl, hB5⟩
  have HB5 := Hid.mk hB5
  obtain ⟨r4, Hr4⟩ : ∃ x, Hid (w5.heap.size = x) := ⟨_, ⟨rfl⟩⟩
  obtain ⟨w6, Hw6⟩ : ∃ x, Hid ((w5.alloc (.cells (nmV (false, false, false, false, false)) 40)).setRow r4 M = x) := ⟨_, ⟨rfl⟩⟩
  have HB56 : Hid (Below w5.heap.size w5 w6) := ⟨by rw [← Hw6.out, ← Hr4.out]; exact below_setRow ((Below.refl _ w5).alloc (Nat.le_refl _) _) (Nat.le_refl _) _⟩
  have Hz46 : Hid (w6.heap[r4]? = some (.cells M 40 (0, 0))) := ⟨by rw [← Hw6.out, ← Hr4.out]; exact setRow_heap _ _ (nmV (false, false, false, false, false)) _ 40 (0, 0) (heap_alloc_new w5 _)⟩
  have Hr34 : Hid (r3 < r4) := ⟨by rw [← Hr4.out]; exact Nat.lt_of_lt_of_le (Array.getElem?_eq_some_iff.1 Hz34.out).1 HB5.out.size⟩
  have Hne : Hid (q < tb ∧ tb < r2 ∧ r2 < r3 ∧ r3 < r4) := ⟨⟨Hqt.out, Htr.out, Hr23.out, Hr34.out⟩⟩
  have HB36 : Hid (Below w3.heap.size w3 w6) := ⟨HB34.out.trans ((HB5.out.trans (HB56.out.mono HB5.out.size)).mono HB34.out.size)⟩
  have HC36 : Hid (Chg [q] w2 w6) := ⟨HC3.out.trans (Chg.ofBelow HB36.out)⟩
  have HN6 : Hid (NtW w w6 q tb r2 r3 r4 v s0 A0 M) := ⟨⟨(Chg.ofBelow HB2.out).trans HC36.out, HT3.out.far (Chg.ofBelow (X := []) HB36.out) (by simp), (HC36.out.block tb (Array.getElem?_eq_some_iff.1 Hb2.out).1 (by simp; have := Hqt.out; omega)).trans Hb2.out, (HC36.out.block r2 (Array.getElem?_eq_some_iff.1 Hz2.out).1 (by simp; have := Hne.out; omega)).trans Hz2.out, ((HB5.out.trans (HB56.out.mono HB5.out.size)).block r3 (Array.getElem?_eq_some_iff.1 Hz34.out).1).trans Hz34.out, Hz46.out, by rw [Htb.out]; have := Hne.out; omega⟩⟩
  clear hB5 t15 k0
  go_upto_region 3 with (first | (refine wp_newZ zero40 rfl rfl ?_; rw [Hr4.out]) | (refine wpList_store_row rfl 40 (.tmp 4) (.tmp 13) rfl r4 M rfl rfl 40 (nmV (false, false, false, false, false)) (by rw [← Hr4.out]; exact heap_alloc_new w5 _) HMs.out.1 HMs.out.2.2 HMs.out.2.1 ?_; rw [Hw6.out]))
  have HI6 := HIa
  have b_6 := HN6.out.cb
  have m_6_0 : w6.cell? ⟨r4, 0, none⟩ = some (.bool true) := by rw [HN6.out.c4, ← HM.out]; rfl
  have m_6_1 : w6.cell? ⟨r4, 1, none⟩ = some (.bool false) := by rw [HN6.out.c4, ← HM.out]; rfl
  have m_6_2 : w6.cell? ⟨r4, 2, none⟩ = some (.bool false) := by rw [HN6.out.c4, ← HM.out]; rfl
  have m_6_3 : w6.cell? ⟨r4, 3, none⟩ = some (.bool false) := by rw [HN6.out.c4, ← HM.out]; rfl
  have m_6_4 : w6.cell? ⟨r4, 4, none⟩ = some (.bool false) := by rw [HN6.out.c4, ← HM.out]; rfl
  have HO6 : Hid (Old B w6 v bs) := ⟨HO.out.on (HN6.out.ch.below HBz.out (by simpa using HBq.out))⟩
  go_upto_region 6 with fail
  obtain ⟨wd, Hwd⟩ : ∃ x, Hid (w6.drew = x) := ⟨_, ⟨rfl⟩⟩
  have HNd : Hid (NtW w wd q tb r2 r3 r4 v s0 A0 M) := ⟨by rw [← Hwd.out]; exact HN6.out.drew⟩
  have HOd : Hid (Old B wd v bs) := ⟨HO.out.on (HNd.out.ch.below HBz.out (by simpa using HBq.out))⟩
  have t46 := name46 (w := wd) HNd.out.tk HOd.out Hby.out Hl.out
  have Hi1 : Hid (InS bs (xS bs 32 s0).2) := ⟨xS_in Hby.out 32 HI6.out⟩
  obtain ⟨⟨ps, sa⟩, Hx⟩ : ∃ r, Hid (xS bs 32 s0 = r) := ⟨_, ⟨rfl⟩⟩
  rw [Hx.out] at t46 Hi1
  simp only at t46 Hi1
  obtain ⟨nm, Hnm⟩ : ∃ r, Hid (strOfNums ps = r) := ⟨_, ⟨rfl⟩⟩
  rw [Hnm.out] at t46
  have Hi2 : Hid (InS bs (nS bs sa).2) := ⟨nS_in Hby.out Hi1.out⟩
  have t45b : ∀ W : World, Tk W q v sa → Old B W v bs → Calls Try.prog 45 #[.pointer (some ⟨q, 0, none⟩)] W fun r w' => r = .returned (.int .i64 (nS bs sa).1) ∧ Tk w' q v (nS bs sa).2 ∧ Chg [q] W w' := fun W h k => num45 h k Hby.out
  obtain ⟨⟨g, sb⟩, Hg⟩ : ∃ r, Hid (nS bs sa = r) := ⟨_, ⟨rfl⟩⟩
  rw [Hg.out] at t45b Hi2
  simp only at t45b Hi2
  have hS0 : (fun w' => w'.cell? ⟨tb, 0, none⟩ = some (.pointer (some ⟨q, 0, none⟩))) w6.drew := by rw [Hwd.out]; exact HNd.out.cb
  refine wp_region_held_drew (S := (fun w' => w'.cell? ⟨tb, 0, none⟩ = some (.pointer (some ⟨q, 0, none⟩)))) (by kernel_rfl) hS0 (fun hS => ?_)
  refine wpAnyH_take (i := 0) (v := .pointer (some ⟨q, 0, none⟩)) rfl (by kernel_rfl) (by kernel_rfl) (by kernel_rfl) (fun _ _ _ h => h) (Or.inl ⟨by kernel_rfl, fun wx hx => by go_simp⟩) hS ?_
  refine wpAnyH_take (i := 2) (v := .pointer (some ⟨q, 0, none⟩)) rfl (by kernel_rfl) (by kernel_rfl) (by kernel_rfl) (fun _ _ _ h => h) (Or.inl ⟨by kernel_rfl, fun wx hx => by go_simp⟩) hS ?_
  clear hS
  rw [Hwd.out]
  refine wpAnyH_ready (rs := [1]) (by kernel_rfl) (by simp) (AllReadyH.cons rfl (fun Kc hK => ?_) AllReadyH.nil)
  go_simp
  refine t46.mono ?_
  rintro e we ⟨rfl, hTe, hCe⟩
  have HNe : Hid (NtW w we q tb r2 r3 r4 v sa A0 M) := ⟨HNd.out.call hTe hCe⟩
  have HOe : Hid (Old B we v bs) := ⟨HO.out.on (HNe.out.ch.below HBz.out (by simpa using HBq.out))⟩
  clear hTe hCe t46
  refine hK.out _ _ HNe.out.cb (fun hS => ?_)
  clear hK
  refine wpAnyH_take (i := 4) (v := .pointer (some ⟨r3, 1, none⟩)) rfl (by kernel_rfl) (by kernel_rfl) (by kernel_rfl) (fun _ _ _ h => h) (Or.inl ⟨by kernel_rfl, fun wx hx => by go_simp⟩) hS ?_
  refine wpAnyH_ready (rs := [3]) (by kernel_rfl) (by simp) (AllReadyH.cons rfl (fun Kc hK => ?_) AllReadyH.nil)
  go_simp
  refine (t45b we HNe.out.tk HOe.out).mono ?_
  rintro e wf ⟨rfl, hTf, hCf⟩
  have HNf : Hid (NtW w wf q tb r2 r3 r4 v sb A0 M) := ⟨HNe.out.call hTf hCf⟩
  clear hTf hCf t45b
  refine hK.out _ _ HNf.out.cb (fun hS => ?_)
  clear hK
  obtain ⟨A1, HA1⟩ : ∃ x, Hid (na (3 : Int) nm 0 0 (.slice none 0 0) (.slice none 0 0) (.slice none 0 0) = x) := ⟨_, ⟨rfl⟩⟩
  obtain ⟨wg, Hwg⟩ : ∃ x, Hid (wf.setCell ⟨r3, 1, none⟩ (.string nm) = x) := ⟨_, ⟨rfl⟩⟩
  have HNg : Hid (NtW w wg q tb r2 r3 r4 v sb A1 M) := ⟨by rw [← Hwg.out]; exact HNf.out.set 1 _ (by rw [← HA0.out, ← HA1.out]; rfl)⟩
  have HGwg : Hid (Chg [r3] wf wg) := ⟨by rw [← Hwg.out]; exact (Chg.refl [r3] wf).setCell (.inl (by simp)) _⟩
  obtain ⟨A2, HA2⟩ : ∃ x, Hid (na (3 : Int) nm g 0 (.slice none 0 0) (.slice none 0 0) (.slice none 0 0) = x) := ⟨_, ⟨rfl⟩⟩
  obtain ⟨w7, Hw7⟩ : ∃ x, Hid (wg.setCell ⟨r3, 2, none⟩ (.int .i64 g) = x) := ⟨_, ⟨rfl⟩⟩
  have HN7 : Hid (NtW w w7 q tb r2 r3 r4 v sb A2 M) := ⟨by rw [← Hw7.out]; exact HNg.out.set 2 _ (by rw [← HA1.out, ← HA2.out]; rfl)⟩
  have HGw7 : Hid (Chg [r3] wg w7) := ⟨by rw [← Hw7.out]; exact (Chg.refl [r3] wg).setCell (.inl (by simp)) _⟩
  have k1 : wf.cell? ⟨r3, 1, none⟩ = some (.string { data := #[] }) := by rw [HNf.out.c3, ← HA0.out]; rfl
  have f1 := HNf.out.f3 1
  have k2 : wg.cell? ⟨r3, 2, none⟩ = some (.int .i64 0) := by rw [HNg.out.c3, ← HA1.out]; rfl
  have f2 := HNg.out.f3 2
  refine wpAnyH_ready (rs := [5]) (by kernel_rfl) (by simp) (AllReadyH.cons rfl (fun Kc hK => ?_) AllReadyH.nil)
  go_simp
  rw [Hwg.out]
  refine hK.out _ _ HNg.out.cb (fun hS => ?_)
  clear hK
  refine wpAnyH_take (i := 6) (v := .pointer (some ⟨r3, 2, none⟩)) rfl (by kernel_rfl) (by kernel_rfl) (by kernel_rfl) (fun _ _ _ h => h) (Or.inl ⟨by kernel_rfl, fun wx hx => by go_simp⟩) hS ?_
  refine wpAnyH_ready (rs := [7]) (by kernel_rfl) (by simp) (AllReadyH.cons rfl (fun Kc hK => ?_) AllReadyH.nil)
  go_simp
  rw [Hw7.out]
  refine hK.out _ _ HN7.out.cb (fun hS => ?_)
  clear hK
  refine wpAnyH_done (by kernel_rfl) ?_ _
  clear hS hS0 k1 f1 k2 f2
  clear b_6 m_6_0 m_6_1 m_6_2 m_6_3 m_6_4
  have HI7 := Hi2
  have b_7 := HN7.out.cb
  have m_7_0 : w7.cell? ⟨r4, 0, none⟩ = some (.bool true) := by rw [HN7.out.c4, ← HM.out]; rfl
  have m_7_1 : w7.cell? ⟨r4, 1, none⟩ = some (.bool false) := by rw [HN7.out.c4, ← HM.out]; rfl
  have m_7_2 : w7.cell? ⟨r4, 2, none⟩ = some (.bool false) := by rw [HN7.out.c4, ← HM.out]; rfl
  have m_7_3 : w7.cell? ⟨r4, 3, none⟩ = some (.bool false) := by rw [HN7.out.c4, ← HM.out]; rfl
  have m_7_4 : w7.cell? ⟨r4, 4, none⟩ = some (.bool false) := by rw [HN7.out.c4, ← HM.out]; rfl
  have HO7 : Hid (Old B w7 v bs) := ⟨HO.out.on (HN7.out.ch.below HBz.out (by simpa using HBq.out))⟩
  go_simp
  have HVf : Hid (R = (⟨(3 : Int), nm, g, 0, [], [], []⟩, sb)) := ⟨by rw [HV.out]; unfold noteK; simp only [cond_true, cond_false, Hx.out, Hg.out, Hnm.out]⟩
  have HRb : Hid (R.1.s = (3 : Int) ∧ True) := ⟨by rw [HVf.out]; exact ⟨rfl, trivial⟩⟩
  have HAf : Hid ((Try.prog.info? 27).map (·.size) = some A2.size ∧ A2.all (·.oneCell') = true ∧ zn.size = A2.size) := ⟨by rw [← HA2.out]; exact ⟨info27, na_one _ _ _ _ _ _ _ _ _ _ _ _ _, rfl⟩⟩
  obtain ⟨wz, Hwz⟩ : ∃ x, Hid (w7.setRow r2 A2 = x) := ⟨_, ⟨rfl⟩⟩
  have HGz : Hid (Chg [r2] w7 wz) := ⟨by rw [← Hwz.out]; exact ⟨rfl, rfl, rfl, by simp, fun k hk hx => setRow_other _ _ k _ (by simpa using hx)⟩⟩
  have Hzf : Hid (wz.heap[r2]? = some (.cells A2 27 (0, 0))) := ⟨by rw [← Hwz.out]; exact setRow_heap _ _ zn _ 27 (0, 0) HN7.out.z2⟩
  have HTz : Hid (Tk wz q v sb) := ⟨HN7.out.tk.far HGz.out (by simp; have := Hne.out; omega)⟩
  have HCz : Hid (Chg [q] w wz) := ⟨HN7.out.ch.thenNew HGz.out (fun x hx => by simp at hx; subst hx; right; have := HN7.out.ne; omega)⟩
  go_wp2_with (first
    | (refine wp_load rfl 27 (.tmp 3) rfl r3 rfl A2 27 (0, 0) _ HN7.out.z3 Try.underlying27 rfl HAf.out.1 ?_)
    | (refine wpList_store_row rfl 27 (.tmp 2) (.tmp 49) rfl r2 A2 rfl rfl 27 zn HN7.out.z2 HAf.out.1 HAf.out.2.2 HAf.out.2.1 ?_; rw [Hwz.out]))
  refine bodyPost_ret (results_cell_row rfl _ wz r2 27 A2 (0, 0) _ (by kernel_rfl) Hzf.out Try.underlying27 rfl HAf.out.1) rfl ?_
  rw [HVf.out, ← HA2.out]
  exact ⟨none, 0, none, 0, none, 0, rfl, OwnE.nil _ _ _ _ _, OwnE.nil _ _ _ _ _, owny_nil _ _, HTz.out, HCz.out⟩
end
end Go.Proofs.Ythohpbppfihoiaa

/- The taker's note: kind 4. -/
namespace Go.Proofs.Ythohpbppfihoiaa
open Go.RowKit Go.Lib

section
variable {w : World}
set_option maxHeartbeats 8000000 in
set_option maxRecDepth 100000 in
theorem note_4 {B q : Nat} {v : Value} {bs : List Int} {st : St} (hT : Tk w q v st) (hO : Old B w v bs) (hB : B ≤ w.heap.size) (hBq : B ≤ q) (hby : ∀ x ∈ bs, 0 ≤ x ∧ x < 256) (hl : bs.length ≤ 140737488355328) (hin : InS bs st) (hs : (nS bs st).1 = 4) :
    Calls Try.prog 31 #[.pointer (some ⟨q, 0, none⟩)] w fun e w' => NoteP w w' q v (noteS bs st).1 (noteS bs st).2 e := by
  have hmf : ∀ (fn : Fn) (first cap : Array Value) (w : World), (Instr.makeFunc fn first cap).run Try.prog w = .ok (.func fn first cap) w := fun _ _ _ _ => rfl
  have HO := Hid.mk hO
  have HBz := Hid.mk hB
  have HBq := Hid.mk hBq
  have Hby := Hid.mk hby
  have Hl := Hid.mk hl
  obtain ⟨tb, Htb⟩ : ∃ x, Hid (w.heap.size = x) := ⟨_, ⟨rfl⟩⟩
  obtain ⟨wa, Hwa⟩ : ∃ x, Hid (w.alloc (.cells #[.pointer (some ⟨q, 0, none⟩)] 76) = x) := ⟨_, ⟨rfl⟩⟩
  obtain ⟨r2, Hr2⟩ : ∃ x, Hid (wa.heap.size = x) := ⟨_, ⟨rfl⟩⟩
  obtain ⟨w2, Hw2⟩ : ∃ x, Hid (wa.alloc (.cells zn 27) = x) := ⟨_, ⟨rfl⟩⟩
  have HBa : Hid (Below w.heap.size w wa) := ⟨by rw [← Hwa.out]; exact (Below.refl _ w).alloc (Nat.le_refl _) _⟩
  have HBb : Hid (Below wa.heap.size wa w2) := ⟨by rw [← Hw2.out]; exact (Below.refl _ wa).alloc (Nat.le_refl _) _⟩
  have HB2 : Hid (Below w.heap.size w w2) := ⟨HBa.out.trans (HBb.out.mono HBa.out.size)⟩
  have Hqt : Hid (q < tb) := ⟨by rw [← Htb.out]; exact hT.lt⟩
  have Htr : Hid (tb < r2) := ⟨by rw [← Hr2.out, ← Hwa.out, ← Htb.out]; simp⟩
  have HT2 : Hid (Tk w2 q v st) := ⟨hT.far (Chg.ofBelow (X := []) HB2.out) (by simp)⟩
  have Hba : Hid (wa.heap[tb]? = some (.cells #[.pointer (some ⟨q, 0, none⟩)] 76 (0, 0))) := ⟨by rw [← Hwa.out, ← Htb.out]; exact heap_alloc_new w _⟩
  have Hb2 : Hid (w2.heap[tb]? = some (.cells #[.pointer (some ⟨q, 0, none⟩)] 76 (0, 0))) := ⟨(HBb.out.block tb (by rw [Hr2.out]; exact Htr.out)).trans Hba.out⟩
  have Hz2 : Hid (w2.heap[r2]? = some (.cells zn 27 (0, 0))) := ⟨by rw [← Hw2.out, ← Hr2.out]; exact heap_alloc_new wa _⟩
  have HO2 : Hid (Old B w2 v bs) := ⟨HO.out.on (HB2.out.mono HBz.out)⟩
  have b2 : w2.cell? ⟨tb, 0, none⟩ = some (.pointer (some ⟨q, 0, none⟩)) := by rw [cell_of_row _ _ _ _ _ _ Hb2.out]; rfl
  have t45 := num45 HT2.out HO2.out hby
  have HIa : Hid (InS bs (nS bs st).2) := ⟨nS_in hby hin⟩
  obtain ⟨⟨n, s0⟩, Hn⟩ : ∃ r, Hid (nS bs st = r) := ⟨_, ⟨rfl⟩⟩
  rw [Hn.out] at t45 HIa hs
  simp only at t45 HIa hs
  subst hs
  have HV : Hid (noteS bs st = noteK (true, false, false, true, false) bs (4 : Int) s0) := ⟨by unfold noteS; rw [Hn.out]; simp only; rfl⟩
  obtain ⟨R, HR⟩ : ∃ R, Hid (noteS bs st = R) := ⟨_, ⟨rfl⟩⟩
  rw [HR.out] at HV ⊢
  obtain ⟨A0, HA0⟩ : ∃ x, Hid (na (4 : Int) { data := #[] } 0 0 (.slice none 0 0) (.slice none 0 0) (.slice none 0 0) = x) := ⟨_, ⟨rfl⟩⟩
  obtain ⟨M, HM⟩ : ∃ x, Hid (nmV (true, false, false, true, false) = x) := ⟨_, ⟨rfl⟩⟩
  have HMs : Hid ((Try.prog.info? 40).map (·.size) = some M.size ∧ M.all (·.oneCell') = true ∧ (nmV (false, false, false, false, false)).size = M.size) := ⟨by rw [← HM.out]; exact ⟨info40, nmV_one _, rfl⟩⟩
  have HAs : Hid ((Try.prog.info? 27).map (·.size) = some A0.size ∧ A0.all (·.oneCell') = true ∧ zn.size = A0.size) := ⟨by rw [← HA0.out]; exact ⟨info27, na_one _ _ _ _ _ _ _ _ _ _ _ _ _, rfl⟩⟩
  have hbu : ∀ W : World, (Instr.build 27 #[(0, .int .i64 (4 : Int))]).run Try.prog W = .ok (.agg A0) W := fun W => by rw [← HA0.out]; exact run_build27 _ W
  have t15 : ∀ W : World, Calls Try.prog 15 #[.int .i64 (4 : Int)] W fun e w' => e = .returned (.tuple #[.agg M, .bool true]) ∧ Below W.heap.size W w' := fun W => by
    have h := named15 (w := W) (4 : Int)
    rw [← HM.out]; exact h
  
  clear hT hO hB hBq hby hl hin 
  go_enter Try.func31, Try.ntmps31
  go_upto_region 1 with (refine wp_newZ zero27 rfl rfl ?_; rw [Hwa.out, Hr2.out, Hw2.out])
  rw [Htb.out]
  go_wp2_with fail
  refine t45.mono ?_
  rintro e w3 ⟨rfl, hT3, hC3⟩
  have HC3 := Hid.mk hC3
  have HT3 := Hid.mk hT3
  obtain ⟨r3, Hr3⟩ : ∃ x, Hid (w3.heap.size = x) := ⟨_, ⟨rfl⟩⟩
  obtain ⟨w4, Hw4⟩ : ∃ x, Hid ((w3.alloc (.cells zn 27)).setRow r3 A0 = x) := ⟨_, ⟨rfl⟩⟩
  have HB34 : Hid (Below w3.heap.size w3 w4) := ⟨by rw [← Hw4.out, ← Hr3.out]; exact below_setRow ((Below.refl _ w3).alloc (Nat.le_refl _) _) (Nat.le_refl _) _⟩
  have Hz34 : Hid (w4.heap[r3]? = some (.cells A0 27 (0, 0))) := ⟨by rw [← Hw4.out, ← Hr3.out]; exact setRow_heap _ _ zn _ 27 (0, 0) (heap_alloc_new w3 _)⟩
  have Hr23 : Hid (r2 < r3) := ⟨by rw [← Hr3.out]; exact Nat.lt_of_lt_of_le (Array.getElem?_eq_some_iff.1 Hz2.out).1 HC3.out.size⟩
  clear t45 hT3 hC3 b2
  go_upto_region 2 with (first
    | (refine wp_build1 (t := 27) (u := .int .i64 (4 : Int)) (C := A0) rfl (.tmp 7) rfl rfl (hbu _) ?_)
    | (refine wp_newZ zero27 rfl rfl ?_; rw [Hr3.out])
    | (refine wpList_store_row rfl 27 (.tmp 3) (.tmp 8) rfl r3 A0 rfl rfl 27 zn (by rw [← Hr3.out]; exact heap_alloc_new w3 _) HAs.out.1 HAs.out.2.2 HAs.out.2.1 ?_; rw [Hw4.out]))
  have k0 : w4.cell? ⟨r3, 0, none⟩ = some (.int .i64 (4 : Int)) := by rw [cell_of_row _ _ _ _ _ _ Hz34.out, ← HA0.out]; rfl
  clear hbu
  go_wp2_with fail
  refine (t15 w4).mono ?_
  rintro e w5 ⟨rfl, hB5⟩
  have HB5 := Hid.mk hB5
  obtain ⟨r4, Hr4⟩ : ∃ x, Hid (w5.heap.size = x) := ⟨_, ⟨rfl⟩⟩
  obtain ⟨w6, Hw6⟩ : ∃ x, Hid ((w5.alloc (.cells (nmV (false, false, false, false, false)) 40)).setRow r4 M = x) := ⟨_, ⟨rfl⟩⟩
  have HB56 : Hid (Below w5.heap.size w5 w6) := ⟨by rw [← Hw6.out, ← Hr4.out]; exact below_setRow ((Below.refl _ w5).alloc (Nat.le_refl _) _) (Nat.le_refl _) _⟩
  have Hz46 : Hid (w6.heap[r4]? = some (.cells M 40 (0, 0))) := ⟨by rw [← Hw6.out, ← Hr4.out]; exact setRow_heap _ _ (nmV (false, false, false, false, false)) _ 40 (0, 0) (heap_alloc_new w5 _)⟩
  have Hr34 : Hid (r3 < r4) := ⟨by rw [← Hr4.out]; exact Nat.lt_of_lt_of_le (Array.getElem?_eq_some_iff.1 Hz34.out).1 HB5.out.size⟩
  have Hne : Hid (q < tb ∧ tb < r2 ∧ r2 < r3 ∧ r3 < r4) := ⟨⟨Hqt.out, Htr.out, Hr23.out, Hr34.out⟩⟩
  have HB36 : Hid (Below w3.heap.size w3 w6) := ⟨HB34.out.trans ((HB5.out.trans (HB56.out.mono HB5.out.size)).mono HB34.out.size)⟩
  have HC36 : Hid (Chg [q] w2 w6) := ⟨HC3.out.trans (Chg.ofBelow HB36.out)⟩
  have HN6 : Hid (NtW w w6 q tb r2 r3 r4 v s0 A0 M) := ⟨⟨(Chg.ofBelow HB2.out).trans HC36.out, HT3.out.far (Chg.ofBelow (X := []) HB36.out) (by simp), (HC36.out.block tb (Array.getElem?_eq_some_iff.1 Hb2.out).1 (by simp; have := Hqt.out; omega)).trans Hb2.out, (HC36.out.block r2 (Array.getElem?_eq_some_iff.1 Hz2.out).1 (by simp; have := Hne.out; omega)).trans Hz2.out, ((HB5.out.trans (HB56.out.mono HB5.out.size)).block r3 (Array.getElem?_eq_some_iff.1 Hz34.out).1).trans Hz34.out, Hz46.out, by rw [Htb.out]; have := Hne.out; omega⟩⟩
  clear hB5 t15 k0
  go_upto_region 3 with (first | (refine wp_newZ zero40 rfl rfl ?_; rw [Hr4.out]) | (refine wpList_store_row rfl 40 (.tmp 4) (.tmp 13) rfl r4 M rfl rfl 40 (nmV (false, false, false, false, false)) (by rw [← Hr4.out]; exact heap_alloc_new w5 _) HMs.out.1 HMs.out.2.2 HMs.out.2.1 ?_; rw [Hw6.out]))
  have HI6 := HIa
  have b_6 := HN6.out.cb
  have m_6_0 : w6.cell? ⟨r4, 0, none⟩ = some (.bool true) := by rw [HN6.out.c4, ← HM.out]; rfl
  have m_6_1 : w6.cell? ⟨r4, 1, none⟩ = some (.bool false) := by rw [HN6.out.c4, ← HM.out]; rfl
  have m_6_2 : w6.cell? ⟨r4, 2, none⟩ = some (.bool false) := by rw [HN6.out.c4, ← HM.out]; rfl
  have m_6_3 : w6.cell? ⟨r4, 3, none⟩ = some (.bool true) := by rw [HN6.out.c4, ← HM.out]; rfl
  have m_6_4 : w6.cell? ⟨r4, 4, none⟩ = some (.bool false) := by rw [HN6.out.c4, ← HM.out]; rfl
  have HO6 : Hid (Old B w6 v bs) := ⟨HO.out.on (HN6.out.ch.below HBz.out (by simpa using HBq.out))⟩
  go_upto_region 6 with fail
  obtain ⟨wd, Hwd⟩ : ∃ x, Hid (w6.drew = x) := ⟨_, ⟨rfl⟩⟩
  have HNd : Hid (NtW w wd q tb r2 r3 r4 v s0 A0 M) := ⟨by rw [← Hwd.out]; exact HN6.out.drew⟩
  have HOd : Hid (Old B wd v bs) := ⟨HO.out.on (HNd.out.ch.below HBz.out (by simpa using HBq.out))⟩
  have t46 := name46 (w := wd) HNd.out.tk HOd.out Hby.out Hl.out
  have Hi1 : Hid (InS bs (xS bs 32 s0).2) := ⟨xS_in Hby.out 32 HI6.out⟩
  obtain ⟨⟨ps, sa⟩, Hx⟩ : ∃ r, Hid (xS bs 32 s0 = r) := ⟨_, ⟨rfl⟩⟩
  rw [Hx.out] at t46 Hi1
  simp only at t46 Hi1
  obtain ⟨nm, Hnm⟩ : ∃ r, Hid (strOfNums ps = r) := ⟨_, ⟨rfl⟩⟩
  rw [Hnm.out] at t46
  have Hi2 : Hid (InS bs (nS bs sa).2) := ⟨nS_in Hby.out Hi1.out⟩
  have t45b : ∀ W : World, Tk W q v sa → Old B W v bs → Calls Try.prog 45 #[.pointer (some ⟨q, 0, none⟩)] W fun r w' => r = .returned (.int .i64 (nS bs sa).1) ∧ Tk w' q v (nS bs sa).2 ∧ Chg [q] W w' := fun W h k => num45 h k Hby.out
  obtain ⟨⟨g, sb⟩, Hg⟩ : ∃ r, Hid (nS bs sa = r) := ⟨_, ⟨rfl⟩⟩
  rw [Hg.out] at t45b Hi2
  simp only at t45b Hi2
  have hS0 : (fun w' => w'.cell? ⟨tb, 0, none⟩ = some (.pointer (some ⟨q, 0, none⟩))) w6.drew := by rw [Hwd.out]; exact HNd.out.cb
  refine wp_region_held_drew (S := (fun w' => w'.cell? ⟨tb, 0, none⟩ = some (.pointer (some ⟨q, 0, none⟩)))) (by kernel_rfl) hS0 (fun hS => ?_)
  refine wpAnyH_take (i := 0) (v := .pointer (some ⟨q, 0, none⟩)) rfl (by kernel_rfl) (by kernel_rfl) (by kernel_rfl) (fun _ _ _ h => h) (Or.inl ⟨by kernel_rfl, fun wx hx => by go_simp⟩) hS ?_
  refine wpAnyH_take (i := 2) (v := .pointer (some ⟨q, 0, none⟩)) rfl (by kernel_rfl) (by kernel_rfl) (by kernel_rfl) (fun _ _ _ h => h) (Or.inl ⟨by kernel_rfl, fun wx hx => by go_simp⟩) hS ?_
  clear hS
  rw [Hwd.out]
  refine wpAnyH_ready (rs := [1]) (by kernel_rfl) (by simp) (AllReadyH.cons rfl (fun Kc hK => ?_) AllReadyH.nil)
  go_simp
  refine t46.mono ?_
  rintro e we ⟨rfl, hTe, hCe⟩
  have HNe : Hid (NtW w we q tb r2 r3 r4 v sa A0 M) := ⟨HNd.out.call hTe hCe⟩
  have HOe : Hid (Old B we v bs) := ⟨HO.out.on (HNe.out.ch.below HBz.out (by simpa using HBq.out))⟩
  clear hTe hCe t46
  refine hK.out _ _ HNe.out.cb (fun hS => ?_)
  clear hK
  refine wpAnyH_take (i := 4) (v := .pointer (some ⟨r3, 1, none⟩)) rfl (by kernel_rfl) (by kernel_rfl) (by kernel_rfl) (fun _ _ _ h => h) (Or.inl ⟨by kernel_rfl, fun wx hx => by go_simp⟩) hS ?_
  refine wpAnyH_ready (rs := [3]) (by kernel_rfl) (by simp) (AllReadyH.cons rfl (fun Kc hK => ?_) AllReadyH.nil)
  go_simp
  refine (t45b we HNe.out.tk HOe.out).mono ?_
  rintro e wf ⟨rfl, hTf, hCf⟩
  have HNf : Hid (NtW w wf q tb r2 r3 r4 v sb A0 M) := ⟨HNe.out.call hTf hCf⟩
  clear hTf hCf t45b
  refine hK.out _ _ HNf.out.cb (fun hS => ?_)
  clear hK
  obtain ⟨A1, HA1⟩ : ∃ x, Hid (na (4 : Int) nm 0 0 (.slice none 0 0) (.slice none 0 0) (.slice none 0 0) = x) := ⟨_, ⟨rfl⟩⟩
  obtain ⟨wg, Hwg⟩ : ∃ x, Hid (wf.setCell ⟨r3, 1, none⟩ (.string nm) = x) := ⟨_, ⟨rfl⟩⟩
  have HNg : Hid (NtW w wg q tb r2 r3 r4 v sb A1 M) := ⟨by rw [← Hwg.out]; exact HNf.out.set 1 _ (by rw [← HA0.out, ← HA1.out]; rfl)⟩
  have HGwg : Hid (Chg [r3] wf wg) := ⟨by rw [← Hwg.out]; exact (Chg.refl [r3] wf).setCell (.inl (by simp)) _⟩
  obtain ⟨A2, HA2⟩ : ∃ x, Hid (na (4 : Int) nm g 0 (.slice none 0 0) (.slice none 0 0) (.slice none 0 0) = x) := ⟨_, ⟨rfl⟩⟩
  obtain ⟨w7, Hw7⟩ : ∃ x, Hid (wg.setCell ⟨r3, 2, none⟩ (.int .i64 g) = x) := ⟨_, ⟨rfl⟩⟩
  have HN7 : Hid (NtW w w7 q tb r2 r3 r4 v sb A2 M) := ⟨by rw [← Hw7.out]; exact HNg.out.set 2 _ (by rw [← HA1.out, ← HA2.out]; rfl)⟩
  have HGw7 : Hid (Chg [r3] wg w7) := ⟨by rw [← Hw7.out]; exact (Chg.refl [r3] wg).setCell (.inl (by simp)) _⟩
  have k1 : wf.cell? ⟨r3, 1, none⟩ = some (.string { data := #[] }) := by rw [HNf.out.c3, ← HA0.out]; rfl
  have f1 := HNf.out.f3 1
  have k2 : wg.cell? ⟨r3, 2, none⟩ = some (.int .i64 0) := by rw [HNg.out.c3, ← HA1.out]; rfl
  have f2 := HNg.out.f3 2
  refine wpAnyH_ready (rs := [5]) (by kernel_rfl) (by simp) (AllReadyH.cons rfl (fun Kc hK => ?_) AllReadyH.nil)
  go_simp
  rw [Hwg.out]
  refine hK.out _ _ HNg.out.cb (fun hS => ?_)
  clear hK
  refine wpAnyH_take (i := 6) (v := .pointer (some ⟨r3, 2, none⟩)) rfl (by kernel_rfl) (by kernel_rfl) (by kernel_rfl) (fun _ _ _ h => h) (Or.inl ⟨by kernel_rfl, fun wx hx => by go_simp⟩) hS ?_
  refine wpAnyH_ready (rs := [7]) (by kernel_rfl) (by simp) (AllReadyH.cons rfl (fun Kc hK => ?_) AllReadyH.nil)
  go_simp
  rw [Hw7.out]
  refine hK.out _ _ HN7.out.cb (fun hS => ?_)
  clear hK
  refine wpAnyH_done (by kernel_rfl) ?_ _
  clear hS hS0 k1 f1 k2 f2
  clear b_6 m_6_0 m_6_1 m_6_2 m_6_3 m_6_4
  have HI7 := Hi2
  have b_7 := HN7.out.cb
  have m_7_0 : w7.cell? ⟨r4, 0, none⟩ = some (.bool true) := by rw [HN7.out.c4, ← HM.out]; rfl
  have m_7_1 : w7.cell? ⟨r4, 1, none⟩ = some (.bool false) := by rw [HN7.out.c4, ← HM.out]; rfl
  have m_7_2 : w7.cell? ⟨r4, 2, none⟩ = some (.bool false) := by rw [HN7.out.c4, ← HM.out]; rfl
  have m_7_3 : w7.cell? ⟨r4, 3, none⟩ = some (.bool true) := by rw [HN7.out.c4, ← HM.out]; rfl
  have m_7_4 : w7.cell? ⟨r4, 4, none⟩ = some (.bool false) := by rw [HN7.out.c4, ← HM.out]; rfl
  have HO7 : Hid (Old B w7 v bs) := ⟨HO.out.on (HN7.out.ch.below HBz.out (by simpa using HBq.out))⟩
  go_simp
  have tl := list49 (w := w7) HN7.out.tk HO7.out (Nat.le_trans HBz.out HN7.out.ch.size) HBq.out HN7.out.bx (by have := Hne.out; omega) Hby.out Hl.out HI7.out
  have HI8 : Hid (InS bs (lS bs 256 (pS bs) sb).2) := ⟨lS_in Hby.out _ _ (fun st h => pS_in Hby.out h) HI7.out⟩
  obtain ⟨⟨P, sd⟩, Hlst⟩ : ∃ r, Hid (lS bs 256 (pS bs) sb = r) := ⟨_, ⟨rfl⟩⟩
  rw [Hlst.out] at tl HI8
  simp only at tl HI8
  obtain ⟨zl, Hzl⟩ : ∃ x, Hid (w7.heap.size = x) := ⟨_, ⟨rfl⟩⟩
  have Hzr : Hid (r4 < zl) := ⟨by rw [← Hzl.out]; exact (Array.getElem?_eq_some_iff.1 HN7.out.z4).1⟩
  rw [Hzl.out] at tl
  obtain ⟨nl, Hnl⟩ : ∃ x, Hid (P.length = x) := ⟨_, ⟨rfl⟩⟩
  rw [Hnl.out] at tl
  go_wp2_with fail
  refine tl.mono ?_
  rintro e wh ⟨al, cl, rfl, hOl, hT, hC⟩
  have HOl_wh := Hid.mk hOl
  have HNh : Hid (NtW w wh q tb r2 r3 r4 v sd A2 M) := ⟨HN7.out.call hT hC⟩
  obtain ⟨A3, HA3⟩ : ∃ x, Hid (na (4 : Int) nm g 0 (.slice none 0 0) (.slice al nl cl) (.slice none 0 0) = x) := ⟨_, ⟨rfl⟩⟩
  obtain ⟨w8, Hw8⟩ : ∃ x, Hid (wh.setCell ⟨r3, 5, none⟩ (.slice al nl cl) = x) := ⟨_, ⟨rfl⟩⟩
  have HN8 : Hid (NtW w w8 q tb r2 r3 r4 v sd A3 M) := ⟨by rw [← Hw8.out]; exact HNh.out.set 5 _ (by rw [← HA2.out, ← HA3.out]; rfl)⟩
  have HGw8 : Hid (Chg [r3] wh w8) := ⟨by rw [← Hw8.out]; exact (Chg.refl [r3] wh).setCell (.inl (by simp)) _⟩
  have kh : wh.cell? ⟨r3, 5, none⟩ = some (.slice none 0 0) := by rw [HNh.out.c3, ← HA2.out]; rfl
  have fh := HNh.out.f3 5
  clear hT hC tl hOl
  clear b_7 m_7_0 m_7_1 m_7_2 m_7_3 m_7_4
  have HOl_w8 : Hid (OwnE pe 33 49 w8 zl (.slice al nl cl) P) := ⟨HOl_wh.out.far HGw8.out (fun g hg hm => by simp at hm; have := (HOl_wh.out.lt g hg).1; have := Hzr.out; have := Hne.out; omega)⟩
  go_upto_region 13 with fail
  rw [Hw8.out]
  clear kh fh
  have b_8 := HN8.out.cb
  have m_8_0 : w8.cell? ⟨r4, 0, none⟩ = some (.bool true) := by rw [HN8.out.c4, ← HM.out]; rfl
  have m_8_1 : w8.cell? ⟨r4, 1, none⟩ = some (.bool false) := by rw [HN8.out.c4, ← HM.out]; rfl
  have m_8_2 : w8.cell? ⟨r4, 2, none⟩ = some (.bool false) := by rw [HN8.out.c4, ← HM.out]; rfl
  have m_8_3 : w8.cell? ⟨r4, 3, none⟩ = some (.bool true) := by rw [HN8.out.c4, ← HM.out]; rfl
  have m_8_4 : w8.cell? ⟨r4, 4, none⟩ = some (.bool false) := by rw [HN8.out.c4, ← HM.out]; rfl
  have HO8 : Hid (Old B w8 v bs) := ⟨HO.out.on (HN8.out.ch.below HBz.out (by simpa using HBq.out))⟩
  have HVf : Hid (R = (⟨(4 : Int), nm, g, 0, [], P, []⟩, sd)) := ⟨by rw [HV.out]; unfold noteK; simp only [cond_true, cond_false, Hx.out, Hg.out, Hnm.out, Hlst.out]⟩
  have HRb : Hid (R.1.s = (4 : Int) ∧ True) := ⟨by rw [HVf.out]; exact ⟨rfl, trivial⟩⟩
  have HAf : Hid ((Try.prog.info? 27).map (·.size) = some A3.size ∧ A3.all (·.oneCell') = true ∧ zn.size = A3.size) := ⟨by rw [← HA3.out]; exact ⟨info27, na_one _ _ _ _ _ _ _ _ _ _ _ _ _, rfl⟩⟩
  obtain ⟨wz, Hwz⟩ : ∃ x, Hid (w8.setRow r2 A3 = x) := ⟨_, ⟨rfl⟩⟩
  have HGz : Hid (Chg [r2] w8 wz) := ⟨by rw [← Hwz.out]; exact ⟨rfl, rfl, rfl, by simp, fun k hk hx => setRow_other _ _ k _ (by simpa using hx)⟩⟩
  have Hzf : Hid (wz.heap[r2]? = some (.cells A3 27 (0, 0))) := ⟨by rw [← Hwz.out]; exact setRow_heap _ _ zn _ 27 (0, 0) HN8.out.z2⟩
  have HTz : Hid (Tk wz q v sd) := ⟨HN8.out.tk.far HGz.out (by simp; have := Hne.out; omega)⟩
  have HCz : Hid (Chg [q] w wz) := ⟨HN8.out.ch.thenNew HGz.out (fun x hx => by simp at hx; subst hx; right; have := HN8.out.ne; omega)⟩
  have HOl_wz : Hid (OwnE pe 33 49 wz zl (.slice al nl cl) P) := ⟨HOl_w8.out.far HGz.out (fun g hg hm => by simp at hm; have := (HOl_w8.out.lt g hg).1; have := Hzr.out; have := Hne.out; omega)⟩
  go_wp2_with (first
    | (refine wp_load rfl 27 (.tmp 3) rfl r3 rfl A3 27 (0, 0) _ HN8.out.z3 Try.underlying27 rfl HAf.out.1 ?_)
    | (refine wpList_store_row rfl 27 (.tmp 2) (.tmp 49) rfl r2 A3 rfl rfl 27 zn HN8.out.z2 HAf.out.1 HAf.out.2.2 HAf.out.2.1 ?_; rw [Hwz.out]))
  refine bodyPost_ret (results_cell_row rfl _ wz r2 27 A3 (0, 0) _ (by kernel_rfl) Hzf.out Try.underlying27 rfl HAf.out.1) rfl ?_
  rw [HVf.out, ← HA3.out]
  exact ⟨none, 0, al, cl, none, 0, by rw [← Hnl.out]; rfl, OwnE.nil _ _ _ _ _, by rw [show (P : List Pt).length = nl from Hnl.out]; exact HOl_wz.out.base (by rw [← Hzl.out]; exact HN7.out.ch.size), owny_nil _ _, HTz.out, HCz.out⟩
end
end Go.Proofs.Ythohpbppfihoiaa

/- The taker's note: kind 5. -/
namespace Go.Proofs.Ythohpbppfihoiaa
open Go.RowKit Go.Lib

section
variable {w : World}
set_option maxHeartbeats 8000000 in
set_option maxRecDepth 100000 in
theorem note_5 {B q : Nat} {v : Value} {bs : List Int} {st : St} (hT : Tk w q v st) (hO : Old B w v bs) (hB : B ≤ w.heap.size) (hBq : B ≤ q) (hby : ∀ x ∈ bs, 0 ≤ x ∧ x < 256) (hl : bs.length ≤ 140737488355328) (hin : InS bs st) (hs : (nS bs st).1 = 5) :
    Calls Try.prog 31 #[.pointer (some ⟨q, 0, none⟩)] w fun e w' => NoteP w w' q v (noteS bs st).1 (noteS bs st).2 e := by
  have hmf : ∀ (fn : Fn) (first cap : Array Value) (w : World), (Instr.makeFunc fn first cap).run Try.prog w = .ok (.func fn first cap) w := fun _ _ _ _ => rfl
  have HO := Hid.mk hO
  have HBz := Hid.mk hB
  have HBq := Hid.mk hBq
  have Hby := Hid.mk hby
  have Hl := Hid.mk hl
  obtain ⟨tb, Htb⟩ : ∃ x, Hid (w.heap.size = x) := ⟨_, ⟨rfl⟩⟩
  obtain ⟨wa, Hwa⟩ : ∃ x, Hid (w.alloc (.cells #[.pointer (some ⟨q, 0, none⟩)] 76) = x) := ⟨_, ⟨rfl⟩⟩
  obtain ⟨r2, Hr2⟩ : ∃ x, Hid (wa.heap.size = x) := ⟨_, ⟨rfl⟩⟩
  obtain ⟨w2, Hw2⟩ : ∃ x, Hid (wa.alloc (.cells zn 27) = x) := ⟨_, ⟨rfl⟩⟩
  have HBa : Hid (Below w.heap.size w wa) := ⟨by rw [← Hwa.out]; exact (Below.refl _ w).alloc (Nat.le_refl _) _⟩
  have HBb : Hid (Below wa.heap.size wa w2) := ⟨by rw [← Hw2.out]; exact (Below.refl _ wa).alloc (Nat.le_refl _) _⟩
  have HB2 : Hid (Below w.heap.size w w2) := ⟨HBa.out.trans (HBb.out.mono HBa.out.size)⟩
  have Hqt : Hid (q < tb) := ⟨by rw [← Htb.out]; exact hT.lt⟩
  have Htr : Hid (tb < r2) := ⟨by rw [← Hr2.out, ← Hwa.out, ← Htb.out]; simp⟩
  have HT2 : Hid (Tk w2 q v st) := ⟨hT.far (Chg.ofBelow (X := []) HB2.out) (by simp)⟩
  have Hba : Hid (wa.heap[tb]? = some (.cells #[.pointer (some ⟨q, 0, none⟩)] 76 (0, 0))) := ⟨by rw [← Hwa.out, ← Htb.out]; exact heap_alloc_new w _⟩
  have Hb2 : Hid (w2.heap[tb]? = some (.cells #[.pointer (some ⟨q, 0, none⟩)] 76 (0, 0))) := ⟨(HBb.out.block tb (by rw [Hr2.out]; exact Htr.out)).trans Hba.out⟩
  have Hz2 : Hid (w2.heap[r2]? = some (.cells zn 27 (0, 0))) := ⟨by rw [← Hw2.out, ← Hr2.out]; exact heap_alloc_new wa _⟩
  have HO2 : Hid (Old B w2 v bs) := ⟨HO.out.on (HB2.out.mono HBz.out)⟩
  have b2 : w2.cell? ⟨tb, 0, none⟩ = some (.pointer (some ⟨q, 0, none⟩)) := by rw [cell_of_row _ _ _ _ _ _ Hb2.out]; rfl
  have t45 := num45 HT2.out HO2.out hby
  have HIa : Hid (InS bs (nS bs st).2) := ⟨nS_in hby hin⟩
  obtain ⟨⟨n, s0⟩, Hn⟩ : ∃ r, Hid (nS bs st = r) := ⟨_, ⟨rfl⟩⟩
  rw [Hn.out] at t45 HIa hs
  simp only at t45 HIa hs
  subst hs
  have HV : Hid (noteS bs st = noteK (true, false, false, false, false) bs (5 : Int) s0) := ⟨by unfold noteS; rw [Hn.out]; simp only; rfl⟩
  obtain ⟨R, HR⟩ : ∃ R, Hid (noteS bs st = R) := ⟨_, ⟨rfl⟩⟩
  rw [HR.out] at HV ⊢
  obtain ⟨A0, HA0⟩ : ∃ x, Hid (na (5 : Int) { data := #[] } 0 0 (.slice none 0 0) (.slice none 0 0) (.slice none 0 0) = x) := ⟨_, ⟨rfl⟩⟩
  obtain ⟨M, HM⟩ : ∃ x, Hid (nmV (true, false, false, false, false) = x) := ⟨_, ⟨rfl⟩⟩
  have HMs : Hid ((Try.prog.info? 40).map (·.size) = some M.size ∧ M.all (·.oneCell') = true ∧ (nmV (false, false, false, false, false)).size = M.size) := ⟨by rw [← HM.out]; exact ⟨info40, nmV_one _, rfl⟩⟩
  have HAs : Hid ((Try.prog.info? 27).map (·.size) = some A0.size ∧ A0.all (·.oneCell') = true ∧ zn.size = A0.size) := ⟨by rw [← HA0.out]; exact ⟨info27, na_one _ _ _ _ _ _ _ _ _ _ _ _ _, rfl⟩⟩
  have hbu : ∀ W : World, (Instr.build 27 #[(0, .int .i64 (5 : Int))]).run Try.prog W = .ok (.agg A0) W := fun W => by rw [← HA0.out]; exact run_build27 _ W
  have t15 : ∀ W : World, Calls Try.prog 15 #[.int .i64 (5 : Int)] W fun e w' => e = .returned (.tuple #[.agg M, .bool true]) ∧ Below W.heap.size W w' := fun W => by
    have h := named15 (w := W) (5 : Int)
    rw [← HM.out]; exact h
  
  clear hT hO hB hBq hby hl hin 
  go_enter Try.func31, Try.ntmps31
  go_upto_region 1 with (refine wp_newZ zero27 rfl rfl ?_; rw [Hwa.out, Hr2.out, Hw2.out])
  rw [Htb.out]
  go_wp2_with fail
  refine t45.mono ?_
  rintro e w3 ⟨rfl, hT3, hC3⟩
  have HC3 := Hid.mk hC3
  have HT3 := Hid.mk hT3
  obtain ⟨r3, Hr3⟩ : ∃ x, Hid (w3.heap.size = x) := ⟨_, ⟨rfl⟩⟩
  obtain ⟨w4, Hw4⟩ : ∃ x, Hid ((w3.alloc (.cells zn 27)).setRow r3 A0 = x) := ⟨_, ⟨rfl⟩⟩
  have HB34 : Hid (Below w3.heap.size w3 w4) := ⟨by rw [← Hw4.out, ← Hr3.out]; exact below_setRow ((Below.refl _ w3).alloc (Nat.le_refl _) _) (Nat.le_refl _) _⟩
  have Hz34 : Hid (w4.heap[r3]? = some (.cells A0 27 (0, 0))) := ⟨by rw [← Hw4.out, ← Hr3.out]; exact setRow_heap _ _ zn _ 27 (0, 0) (heap_alloc_new w3 _)⟩
  have Hr23 : Hid (r2 < r3) := ⟨by rw [← Hr3.out]; exact Nat.lt_of_lt_of_le (Array.getElem?_eq_some_iff.1 Hz2.out).1 HC3.out.size⟩
  clear t45 hT3 hC3 b2
  go_upto_region 2 with (first
    | (refine wp_build1 (t := 27) (u := .int .i64 (5 : Int)) (C := A0) rfl (.tmp 7) rfl rfl (hbu _) ?_)
    | (refine wp_newZ zero27 rfl rfl ?_; rw [Hr3.out])
    | (refine wpList_store_row rfl 27 (.tmp 3) (.tmp 8) rfl r3 A0 rfl rfl 27 zn (by rw [← Hr3.out]; exact heap_alloc_new w3 _) HAs.out.1 HAs.out.2.2 HAs.out.2.1 ?_; rw [Hw4.out]))
  have k0 : w4.cell? ⟨r3, 0, none⟩ = some (.int .i64 (5 : Int)) := by rw [cell_of_row _ _ _ _ _ _ Hz34.out, ← HA0.out]; rfl
  clear hbu
  go_wp2_with fail
  refine (t15 w4).mono ?_
  rintro e w5 ⟨rfl, hB5⟩
  have HB5 := Hid.mk hB5
  obtain ⟨r4, Hr4⟩ : ∃ x, Hid (w5.heap.size = x) := ⟨_, ⟨rfl⟩⟩
  obtain ⟨w6, Hw6⟩ : ∃ x, Hid ((w5.alloc (.cells (nmV (false, false, false, false, false)) 40)).setRow r4 M = x) := ⟨_, ⟨rfl⟩⟩
  have HB56 : Hid (Below w5.heap.size w5 w6) := ⟨by rw [← Hw6.out, ← Hr4.out]; exact below_setRow ((Below.refl _ w5).alloc (Nat.le_refl _) _) (Nat.le_refl _) _⟩
  have Hz46 : Hid (w6.heap[r4]? = some (.cells M 40 (0, 0))) := ⟨by rw [← Hw6.out, ← Hr4.out]; exact setRow_heap _ _ (nmV (false, false, false, false, false)) _ 40 (0, 0) (heap_alloc_new w5 _)⟩
  have Hr34 : Hid (r3 < r4) := ⟨by rw [← Hr4.out]; exact Nat.lt_of_lt_of_le (Array.getElem?_eq_some_iff.1 Hz34.out).1 HB5.out.size⟩
  have Hne : Hid (q < tb ∧ tb < r2 ∧ r2 < r3 ∧ r3 < r4) := ⟨⟨Hqt.out, Htr.out, Hr23.out, Hr34.out⟩⟩
  have HB36 : Hid (Below w3.heap.size w3 w6) := ⟨HB34.out.trans ((HB5.out.trans (HB56.out.mono HB5.out.size)).mono HB34.out.size)⟩
  have HC36 : Hid (Chg [q] w2 w6) := ⟨HC3.out.trans (Chg.ofBelow HB36.out)⟩
  have HN6 : Hid (NtW w w6 q tb r2 r3 r4 v s0 A0 M) := ⟨⟨(Chg.ofBelow HB2.out).trans HC36.out, HT3.out.far (Chg.ofBelow (X := []) HB36.out) (by simp), (HC36.out.block tb (Array.getElem?_eq_some_iff.1 Hb2.out).1 (by simp; have := Hqt.out; omega)).trans Hb2.out, (HC36.out.block r2 (Array.getElem?_eq_some_iff.1 Hz2.out).1 (by simp; have := Hne.out; omega)).trans Hz2.out, ((HB5.out.trans (HB56.out.mono HB5.out.size)).block r3 (Array.getElem?_eq_some_iff.1 Hz34.out).1).trans Hz34.out, Hz46.out, by rw [Htb.out]; have := Hne.out; omega⟩⟩
  clear hB5 t15 k0
  go_upto_region 3 with (first | (refine wp_newZ zero40 rfl rfl ?_; rw [Hr4.out]) | (refine wpList_store_row rfl 40 (.tmp 4) (.tmp 13) rfl r4 M rfl rfl 40 (nmV (false, false, false, false, false)) (by rw [← Hr4.out]; exact heap_alloc_new w5 _) HMs.out.1 HMs.out.2.2 HMs.out.2.1 ?_; rw [Hw6.out]))
  have HI6 := HIa
  have b_6 := HN6.out.cb
  have m_6_0 : w6.cell? ⟨r4, 0, none⟩ = some (.bool true) := by rw [HN6.out.c4, ← HM.out]; rfl
  have m_6_1 : w6.cell? ⟨r4, 1, none⟩ = some (.bool false) := by rw [HN6.out.c4, ← HM.out]; rfl
  have m_6_2 : w6.cell? ⟨r4, 2, none⟩ = some (.bool false) := by rw [HN6.out.c4, ← HM.out]; rfl
  have m_6_3 : w6.cell? ⟨r4, 3, none⟩ = some (.bool false) := by rw [HN6.out.c4, ← HM.out]; rfl
  have m_6_4 : w6.cell? ⟨r4, 4, none⟩ = some (.bool false) := by rw [HN6.out.c4, ← HM.out]; rfl
  have HO6 : Hid (Old B w6 v bs) := ⟨HO.out.on (HN6.out.ch.below HBz.out (by simpa using HBq.out))⟩
  go_upto_region 6 with fail
  obtain ⟨wd, Hwd⟩ : ∃ x, Hid (w6.drew = x) := ⟨_, ⟨rfl⟩⟩
  have HNd : Hid (NtW w wd q tb r2 r3 r4 v s0 A0 M) := ⟨by rw [← Hwd.out]; exact HN6.out.drew⟩
  have HOd : Hid (Old B wd v bs) := ⟨HO.out.on (HNd.out.ch.below HBz.out (by simpa using HBq.out))⟩
  have t46 := name46 (w := wd) HNd.out.tk HOd.out Hby.out Hl.out
  have Hi1 : Hid (InS bs (xS bs 32 s0).2) := ⟨xS_in Hby.out 32 HI6.out⟩
  obtain ⟨⟨ps, sa⟩, Hx⟩ : ∃ r, Hid (xS bs 32 s0 = r) := ⟨_, ⟨rfl⟩⟩
  rw [Hx.out] at t46 Hi1
  simp only at t46 Hi1
  obtain ⟨nm, Hnm⟩ : ∃ r, Hid (strOfNums ps = r) := ⟨_, ⟨rfl⟩⟩
  rw [Hnm.out] at t46
  have Hi2 : Hid (InS bs (nS bs sa).2) := ⟨nS_in Hby.out Hi1.out⟩
  have t45b : ∀ W : World, Tk W q v sa → Old B W v bs → Calls Try.prog 45 #[.pointer (some ⟨q, 0, none⟩)] W fun r w' => r = .returned (.int .i64 (nS bs sa).1) ∧ Tk w' q v (nS bs sa).2 ∧ Chg [q] W w' := fun W h k => num45 h k Hby.out
  obtain ⟨⟨g, sb⟩, Hg⟩ : ∃ r, Hid (nS bs sa = r) := ⟨_, ⟨rfl⟩⟩
  rw [Hg.out] at t45b Hi2
  simp only at t45b Hi2
  have hS0 : (fun w' => w'.cell? ⟨tb, 0, none⟩ = some (.pointer (some ⟨q, 0, none⟩))) w6.drew := by rw [Hwd.out]; exact HNd.out.cb
  refine wp_region_held_drew (S := (fun w' => w'.cell? ⟨tb, 0, none⟩ = some (.pointer (some ⟨q, 0, none⟩)))) (by kernel_rfl) hS0 (fun hS => ?_)
  refine wpAnyH_take (i := 0) (v := .pointer (some ⟨q, 0, none⟩)) rfl (by kernel_rfl) (by kernel_rfl) (by kernel_rfl) (fun _ _ _ h => h) (Or.inl ⟨by kernel_rfl, fun wx hx => by go_simp⟩) hS ?_
  refine wpAnyH_take (i := 2) (v := .pointer (some ⟨q, 0, none⟩)) rfl (by kernel_rfl) (by kernel_rfl) (by kernel_rfl) (fun _ _ _ h => h) (Or.inl ⟨by kernel_rfl, fun wx hx => by go_simp⟩) hS ?_
  clear hS
  rw [Hwd.out]
  refine wpAnyH_ready (rs := [1]) (by kernel_rfl) (by simp) (AllReadyH.cons rfl (fun Kc hK => ?_) AllReadyH.nil)
  go_simp
  refine t46.mono ?_
  rintro e we ⟨rfl, hTe, hCe⟩
  have HNe : Hid (NtW w we q tb r2 r3 r4 v sa A0 M) := ⟨HNd.out.call hTe hCe⟩
  have HOe : Hid (Old B we v bs) := ⟨HO.out.on (HNe.out.ch.below HBz.out (by simpa using HBq.out))⟩
  clear hTe hCe t46
  refine hK.out _ _ HNe.out.cb (fun hS => ?_)
  clear hK
  refine wpAnyH_take (i := 4) (v := .pointer (some ⟨r3, 1, none⟩)) rfl (by kernel_rfl) (by kernel_rfl) (by kernel_rfl) (fun _ _ _ h => h) (Or.inl ⟨by kernel_rfl, fun wx hx => by go_simp⟩) hS ?_
  refine wpAnyH_ready (rs := [3]) (by kernel_rfl) (by simp) (AllReadyH.cons rfl (fun Kc hK => ?_) AllReadyH.nil)
  go_simp
  refine (t45b we HNe.out.tk HOe.out).mono ?_
  rintro e wf ⟨rfl, hTf, hCf⟩
  have HNf : Hid (NtW w wf q tb r2 r3 r4 v sb A0 M) := ⟨HNe.out.call hTf hCf⟩
  clear hTf hCf t45b
  refine hK.out _ _ HNf.out.cb (fun hS => ?_)
  clear hK
  obtain ⟨A1, HA1⟩ : ∃ x, Hid (na (5 : Int) nm 0 0 (.slice none 0 0) (.slice none 0 0) (.slice none 0 0) = x) := ⟨_, ⟨rfl⟩⟩
  obtain ⟨wg, Hwg⟩ : ∃ x, Hid (wf.setCell ⟨r3, 1, none⟩ (.string nm) = x) := ⟨_, ⟨rfl⟩⟩
  have HNg : Hid (NtW w wg q tb r2 r3 r4 v sb A1 M) := ⟨by rw [← Hwg.out]; exact HNf.out.set 1 _ (by rw [← HA0.out, ← HA1.out]; rfl)⟩
  have HGwg : Hid (Chg [r3] wf wg) := ⟨by rw [← Hwg.out]; exact (Chg.refl [r3] wf).setCell (.inl (by simp)) _⟩
  obtain ⟨A2, HA2⟩ : ∃ x, Hid (na (5 : Int) nm g 0 (.slice none 0 0) (.slice none 0 0) (.slice none 0 0) = x) := ⟨_, ⟨rfl⟩⟩
  obtain ⟨w7, Hw7⟩ : ∃ x, Hid (wg.setCell ⟨r3, 2, none⟩ (.int .i64 g) = x) := ⟨_, ⟨rfl⟩⟩
  have HN7 : Hid (NtW w w7 q tb r2 r3 r4 v sb A2 M) := ⟨by rw [← Hw7.out]; exact HNg.out.set 2 _ (by rw [← HA1.out, ← HA2.out]; rfl)⟩
  have HGw7 : Hid (Chg [r3] wg w7) := ⟨by rw [← Hw7.out]; exact (Chg.refl [r3] wg).setCell (.inl (by simp)) _⟩
  have k1 : wf.cell? ⟨r3, 1, none⟩ = some (.string { data := #[] }) := by rw [HNf.out.c3, ← HA0.out]; rfl
  have f1 := HNf.out.f3 1
  have k2 : wg.cell? ⟨r3, 2, none⟩ = some (.int .i64 0) := by rw [HNg.out.c3, ← HA1.out]; rfl
  have f2 := HNg.out.f3 2
  refine wpAnyH_ready (rs := [5]) (by kernel_rfl) (by simp) (AllReadyH.cons rfl (fun Kc hK => ?_) AllReadyH.nil)
  go_simp
  rw [Hwg.out]
  refine hK.out _ _ HNg.out.cb (fun hS => ?_)
  clear hK
  refine wpAnyH_take (i := 6) (v := .pointer (some ⟨r3, 2, none⟩)) rfl (by kernel_rfl) (by kernel_rfl) (by kernel_rfl) (fun _ _ _ h => h) (Or.inl ⟨by kernel_rfl, fun wx hx => by go_simp⟩) hS ?_
  refine wpAnyH_ready (rs := [7]) (by kernel_rfl) (by simp) (AllReadyH.cons rfl (fun Kc hK => ?_) AllReadyH.nil)
  go_simp
  rw [Hw7.out]
  refine hK.out _ _ HN7.out.cb (fun hS => ?_)
  clear hK
  refine wpAnyH_done (by kernel_rfl) ?_ _
  clear hS hS0 k1 f1 k2 f2
  clear b_6 m_6_0 m_6_1 m_6_2 m_6_3 m_6_4
  have HI7 := Hi2
  have b_7 := HN7.out.cb
  have m_7_0 : w7.cell? ⟨r4, 0, none⟩ = some (.bool true) := by rw [HN7.out.c4, ← HM.out]; rfl
  have m_7_1 : w7.cell? ⟨r4, 1, none⟩ = some (.bool false) := by rw [HN7.out.c4, ← HM.out]; rfl
  have m_7_2 : w7.cell? ⟨r4, 2, none⟩ = some (.bool false) := by rw [HN7.out.c4, ← HM.out]; rfl
  have m_7_3 : w7.cell? ⟨r4, 3, none⟩ = some (.bool false) := by rw [HN7.out.c4, ← HM.out]; rfl
  have m_7_4 : w7.cell? ⟨r4, 4, none⟩ = some (.bool false) := by rw [HN7.out.c4, ← HM.out]; rfl
  have HO7 : Hid (Old B w7 v bs) := ⟨HO.out.on (HN7.out.ch.below HBz.out (by simpa using HBq.out))⟩
  go_simp
  have HVf : Hid (R = (⟨(5 : Int), nm, g, 0, [], [], []⟩, sb)) := ⟨by rw [HV.out]; unfold noteK; simp only [cond_true, cond_false, Hx.out, Hg.out, Hnm.out]⟩
  have HRb : Hid (R.1.s = (5 : Int) ∧ True) := ⟨by rw [HVf.out]; exact ⟨rfl, trivial⟩⟩
  have HAf : Hid ((Try.prog.info? 27).map (·.size) = some A2.size ∧ A2.all (·.oneCell') = true ∧ zn.size = A2.size) := ⟨by rw [← HA2.out]; exact ⟨info27, na_one _ _ _ _ _ _ _ _ _ _ _ _ _, rfl⟩⟩
  obtain ⟨wz, Hwz⟩ : ∃ x, Hid (w7.setRow r2 A2 = x) := ⟨_, ⟨rfl⟩⟩
  have HGz : Hid (Chg [r2] w7 wz) := ⟨by rw [← Hwz.out]; exact ⟨rfl, rfl, rfl, by simp, fun k hk hx => setRow_other _ _ k _ (by simpa using hx)⟩⟩
  have Hzf : Hid (wz.heap[r2]? = some (.cells A2 27 (0, 0))) := ⟨by rw [← Hwz.out]; exact setRow_heap _ _ zn _ 27 (0, 0) HN7.out.z2⟩
  have HTz : Hid (Tk wz q v sb) := ⟨HN7.out.tk.far HGz.out (by simp; have := Hne.out; omega)⟩
  have HCz : Hid (Chg [q] w wz) := ⟨HN7.out.ch.thenNew HGz.out (fun x hx => by simp at hx; subst hx; right; have := HN7.out.ne; omega)⟩
  go_wp2_with (first
    | (refine wp_load rfl 27 (.tmp 3) rfl r3 rfl A2 27 (0, 0) _ HN7.out.z3 Try.underlying27 rfl HAf.out.1 ?_)
    | (refine wpList_store_row rfl 27 (.tmp 2) (.tmp 49) rfl r2 A2 rfl rfl 27 zn HN7.out.z2 HAf.out.1 HAf.out.2.2 HAf.out.2.1 ?_; rw [Hwz.out]))
  refine bodyPost_ret (results_cell_row rfl _ wz r2 27 A2 (0, 0) _ (by kernel_rfl) Hzf.out Try.underlying27 rfl HAf.out.1) rfl ?_
  rw [HVf.out, ← HA2.out]
  exact ⟨none, 0, none, 0, none, 0, rfl, OwnE.nil _ _ _ _ _, OwnE.nil _ _ _ _ _, owny_nil _ _, HTz.out, HCz.out⟩
end
end Go.Proofs.Ythohpbppfihoiaa

/- The taker's note: kind 6. -/
namespace Go.Proofs.Ythohpbppfihoiaa
open Go.RowKit Go.Lib

section
variable {w : World}
set_option maxHeartbeats 8000000 in
set_option maxRecDepth 100000 in
theorem note_6 {B q : Nat} {v : Value} {bs : List Int} {st : St} (hT : Tk w q v st) (hO : Old B w v bs) (hB : B ≤ w.heap.size) (hBq : B ≤ q) (hby : ∀ x ∈ bs, 0 ≤ x ∧ x < 256) (hl : bs.length ≤ 140737488355328) (hin : InS bs st) (hs : (nS bs st).1 = 6) :
    Calls Try.prog 31 #[.pointer (some ⟨q, 0, none⟩)] w fun e w' => NoteP w w' q v (noteS bs st).1 (noteS bs st).2 e := by
  have hmf : ∀ (fn : Fn) (first cap : Array Value) (w : World), (Instr.makeFunc fn first cap).run Try.prog w = .ok (.func fn first cap) w := fun _ _ _ _ => rfl
  have HO := Hid.mk hO
  have HBz := Hid.mk hB
  have HBq := Hid.mk hBq
  have Hby := Hid.mk hby
  have Hl := Hid.mk hl
  obtain ⟨tb, Htb⟩ : ∃ x, Hid (w.heap.size = x) := ⟨_, ⟨rfl⟩⟩
  obtain ⟨wa, Hwa⟩ : ∃ x, Hid (w.alloc (.cells #[.pointer (some ⟨q, 0, none⟩)] 76) = x) := ⟨_, ⟨rfl⟩⟩
  obtain ⟨r2, Hr2⟩ : ∃ x, Hid (wa.heap.size = x) := ⟨_, ⟨rfl⟩⟩
  obtain ⟨w2, Hw2⟩ : ∃ x, Hid (wa.alloc (.cells zn 27) = x) := ⟨_, ⟨rfl⟩⟩
  have HBa : Hid (Below w.heap.size w wa) := ⟨by rw [← Hwa.out]; exact (Below.refl _ w).alloc (Nat.le_refl _) _⟩
  have HBb : Hid (Below wa.heap.size wa w2) := ⟨by rw [← Hw2.out]; exact (Below.refl _ wa).alloc (Nat.le_refl _) _⟩
  have HB2 : Hid (Below w.heap.size w w2) := ⟨HBa.out.trans (HBb.out.mono HBa.out.size)⟩
  have Hqt : Hid (q < tb) := ⟨by rw [← Htb.out]; exact hT.lt⟩
  have Htr : Hid (tb < r2) := ⟨by rw [← Hr2.out, ← Hwa.out, ← Htb.out]; simp⟩
  have HT2 : Hid (Tk w2 q v st) := ⟨hT.far (Chg.ofBelow (X := []) HB2.out) (by simp)⟩
  have Hba : Hid (wa.heap[tb]? = some (.cells #[.pointer (some ⟨q, 0, none⟩)] 76 (0, 0))) := ⟨by rw [← Hwa.out, ← Htb.out]; exact heap_alloc_new w _⟩
  have Hb2 : Hid (w2.heap[tb]? = some (.cells #[.pointer (some ⟨q, 0, none⟩)] 76 (0, 0))) := ⟨(HBb.out.block tb (by rw [Hr2.out]; exact Htr.out)).trans Hba.out⟩
  have Hz2 : Hid (w2.heap[r2]? = some (.cells zn 27 (0, 0))) := ⟨by rw [← Hw2.out, ← Hr2.out]; exact heap_alloc_new wa _⟩
  have HO2 : Hid (Old B w2 v bs) := ⟨HO.out.on (HB2.out.mono HBz.out)⟩
  have b2 : w2.cell? ⟨tb, 0, none⟩ = some (.pointer (some ⟨q, 0, none⟩)) := by rw [cell_of_row _ _ _ _ _ _ Hb2.out]; rfl
  have t45 := num45 HT2.out HO2.out hby
  have HIa : Hid (InS bs (nS bs st).2) := ⟨nS_in hby hin⟩
  obtain ⟨⟨n, s0⟩, Hn⟩ : ∃ r, Hid (nS bs st = r) := ⟨_, ⟨rfl⟩⟩
  rw [Hn.out] at t45 HIa hs
  simp only at t45 HIa hs
  subst hs
  have HV : Hid (noteS bs st = noteK (true, true, false, false, false) bs (6 : Int) s0) := ⟨by unfold noteS; rw [Hn.out]; simp only; rfl⟩
  obtain ⟨R, HR⟩ : ∃ R, Hid (noteS bs st = R) := ⟨_, ⟨rfl⟩⟩
  rw [HR.out] at HV ⊢
  obtain ⟨A0, HA0⟩ : ∃ x, Hid (na (6 : Int) { data := #[] } 0 0 (.slice none 0 0) (.slice none 0 0) (.slice none 0 0) = x) := ⟨_, ⟨rfl⟩⟩
  obtain ⟨M, HM⟩ : ∃ x, Hid (nmV (true, true, false, false, false) = x) := ⟨_, ⟨rfl⟩⟩
  have HMs : Hid ((Try.prog.info? 40).map (·.size) = some M.size ∧ M.all (·.oneCell') = true ∧ (nmV (false, false, false, false, false)).size = M.size) := ⟨by rw [← HM.out]; exact ⟨info40, nmV_one _, rfl⟩⟩
  have HAs : Hid ((Try.prog.info? 27).map (·.size) = some A0.size ∧ A0.all (·.oneCell') = true ∧ zn.size = A0.size) := ⟨by rw [← HA0.out]; exact ⟨info27, na_one _ _ _ _ _ _ _ _ _ _ _ _ _, rfl⟩⟩
  have hbu : ∀ W : World, (Instr.build 27 #[(0, .int .i64 (6 : Int))]).run Try.prog W = .ok (.agg A0) W := fun W => by rw [← HA0.out]; exact run_build27 _ W
  have t15 : ∀ W : World, Calls Try.prog 15 #[.int .i64 (6 : Int)] W fun e w' => e = .returned (.tuple #[.agg M, .bool true]) ∧ Below W.heap.size W w' := fun W => by
    have h := named15 (w := W) (6 : Int)
    rw [← HM.out]; exact h
  
  clear hT hO hB hBq hby hl hin 
  go_enter Try.func31, Try.ntmps31
  go_upto_region 1 with (refine wp_newZ zero27 rfl rfl ?_; rw [Hwa.out, Hr2.out, Hw2.out])
  rw [Htb.out]
  go_wp2_with fail
  refine t45.mono ?_
  rintro e w3 ⟨rfl, hT3, hC3⟩
  have HC3 := Hid.mk hC3
  have HT3 := Hid.mk hT3
  obtain ⟨r3, Hr3⟩ : ∃ x, Hid (w3.heap.size = x) := ⟨_, ⟨rfl⟩⟩
  obtain ⟨w4, Hw4⟩ : ∃ x, Hid ((w3.alloc (.cells zn 27)).setRow r3 A0 = x) := ⟨_, ⟨rfl⟩⟩
  have HB34 : Hid (Below w3.heap.size w3 w4) := ⟨by rw [← Hw4.out, ← Hr3.out]; exact below_setRow ((Below.refl _ w3).alloc (Nat.le_refl _) _) (Nat.le_refl _) _⟩
  have Hz34 : Hid (w4.heap[r3]? = some (.cells A0 27 (0, 0))) := ⟨by rw [← Hw4.out, ← Hr3.out]; exact setRow_heap _ _ zn _ 27 (0, 0) (heap_alloc_new w3 _)⟩
  have Hr23 : Hid (r2 < r3) := ⟨by rw [← Hr3.out]; exact Nat.lt_of_lt_of_le (Array.getElem?_eq_some_iff.1 Hz2.out).1 HC3.out.size⟩
  clear t45 hT3 hC3 b2
  go_upto_region 2 with (first
    | (refine wp_build1 (t := 27) (u := .int .i64 (6 : Int)) (C := A0) rfl (.tmp 7) rfl rfl (hbu _) ?_)
    | (refine wp_newZ zero27 rfl rfl ?_; rw [Hr3.out])
    | (refine wpList_store_row rfl 27 (.tmp 3) (.tmp 8) rfl r3 A0 rfl rfl 27 zn (by rw [← Hr3.out]; exact heap_alloc_new w3 _) HAs.out.1 HAs.out.2.2 HAs.out.2.1 ?_; rw [Hw4.out]))
  have k0 : w4.cell? ⟨r3, 0, none⟩ = some (.int .i64 (6 : Int)) := by rw [cell_of_row _ _ _ _ _ _ Hz34.out, ← HA0.out]; rfl
  clear hbu
  go_wp2_with fail
  refine (t15 w4).mono ?_
  rintro e w5 ⟨rfl, hB5⟩
  have HB5 := Hid.mk hB5
  obtain ⟨r4, Hr4⟩ : ∃ x, Hid (w5.heap.size = x) := ⟨_, ⟨rfl⟩⟩
  obtain ⟨w6, Hw6⟩ : ∃ x, Hid ((w5.alloc (.cells (nmV (false, false, false, false, false)) 40)).setRow r4 M = x) := ⟨_, ⟨rfl⟩⟩
  have HB56 : Hid (Below w5.heap.size w5 w6) := ⟨by rw [← Hw6.out, ← Hr4.out]; exact below_setRow ((Below.refl _ w5).alloc (Nat.le_refl _) _) (Nat.le_refl _) _⟩
  have Hz46 : Hid (w6.heap[r4]? = some (.cells M 40 (0, 0))) := ⟨by rw [← Hw6.out, ← Hr4.out]; exact setRow_heap _ _ (nmV (false, false, false, false, false)) _ 40 (0, 0) (heap_alloc_new w5 _)⟩
  have Hr34 : Hid (r3 < r4) := ⟨by rw [← Hr4.out]; exact Nat.lt_of_lt_of_le (Array.getElem?_eq_some_iff.1 Hz34.out).1 HB5.out.size⟩
  have Hne : Hid (q < tb ∧ tb < r2 ∧ r2 < r3 ∧ r3 < r4) := ⟨⟨Hqt.out, Htr.out, Hr23.out, Hr34.out⟩⟩
  have HB36 : Hid (Below w3.heap.size w3 w6) := ⟨HB34.out.trans ((HB5.out.trans (HB56.out.mono HB5.out.size)).mono HB34.out.size)⟩
  have HC36 : Hid (Chg [q] w2 w6) := ⟨HC3.out.trans (Chg.ofBelow HB36.out)⟩
  have HN6 : Hid (NtW w w6 q tb r2 r3 r4 v s0 A0 M) := ⟨⟨(Chg.ofBelow HB2.out).trans HC36.out, HT3.out.far (Chg.ofBelow (X := []) HB36.out) (by simp), (HC36.out.block tb (Array.getElem?_eq_some_iff.1 Hb2.out).1 (by simp; have := Hqt.out; omega)).trans Hb2.out, (HC36.out.block r2 (Array.getElem?_eq_some_iff.1 Hz2.out).1 (by simp; have := Hne.out; omega)).trans Hz2.out, ((HB5.out.trans (HB56.out.mono HB5.out.size)).block r3 (Array.getElem?_eq_some_iff.1 Hz34.out).1).trans Hz34.out, Hz46.out, by rw [Htb.out]; have := Hne.out; omega⟩⟩
  clear hB5 t15 k0
  go_upto_region 3 with (first | (refine wp_newZ zero40 rfl rfl ?_; rw [Hr4.out]) | (refine wpList_store_row rfl 40 (.tmp 4) (.tmp 13) rfl r4 M rfl rfl 40 (nmV (false, false, false, false, false)) (by rw [← Hr4.out]; exact heap_alloc_new w5 _) HMs.out.1 HMs.out.2.2 HMs.out.2.1 ?_; rw [Hw6.out]))
  have HI6 := HIa
  have b_6 := HN6.out.cb
  have m_6_0 : w6.cell? ⟨r4, 0, none⟩ = some (.bool true) := by rw [HN6.out.c4, ← HM.out]; rfl
  have m_6_1 : w6.cell? ⟨r4, 1, none⟩ = some (.bool true) := by rw [HN6.out.c4, ← HM.out]; rfl
  have m_6_2 : w6.cell? ⟨r4, 2, none⟩ = some (.bool false) := by rw [HN6.out.c4, ← HM.out]; rfl
  have m_6_3 : w6.cell? ⟨r4, 3, none⟩ = some (.bool false) := by rw [HN6.out.c4, ← HM.out]; rfl
  have m_6_4 : w6.cell? ⟨r4, 4, none⟩ = some (.bool false) := by rw [HN6.out.c4, ← HM.out]; rfl
  have HO6 : Hid (Old B w6 v bs) := ⟨HO.out.on (HN6.out.ch.below HBz.out (by simpa using HBq.out))⟩
  go_upto_region 6 with fail
  obtain ⟨wd, Hwd⟩ : ∃ x, Hid (w6.drew = x) := ⟨_, ⟨rfl⟩⟩
  have HNd : Hid (NtW w wd q tb r2 r3 r4 v s0 A0 M) := ⟨by rw [← Hwd.out]; exact HN6.out.drew⟩
  have HOd : Hid (Old B wd v bs) := ⟨HO.out.on (HNd.out.ch.below HBz.out (by simpa using HBq.out))⟩
  have t46 := name46 (w := wd) HNd.out.tk HOd.out Hby.out Hl.out
  have Hi1 : Hid (InS bs (xS bs 32 s0).2) := ⟨xS_in Hby.out 32 HI6.out⟩
  obtain ⟨⟨ps, sa⟩, Hx⟩ : ∃ r, Hid (xS bs 32 s0 = r) := ⟨_, ⟨rfl⟩⟩
  rw [Hx.out] at t46 Hi1
  simp only at t46 Hi1
  obtain ⟨nm, Hnm⟩ : ∃ r, Hid (strOfNums ps = r) := ⟨_, ⟨rfl⟩⟩
  rw [Hnm.out] at t46
  have Hi2 : Hid (InS bs (nS bs sa).2) := ⟨nS_in Hby.out Hi1.out⟩
  have t45b : ∀ W : World, Tk W q v sa → Old B W v bs → Calls Try.prog 45 #[.pointer (some ⟨q, 0, none⟩)] W fun r w' => r = .returned (.int .i64 (nS bs sa).1) ∧ Tk w' q v (nS bs sa).2 ∧ Chg [q] W w' := fun W h k => num45 h k Hby.out
  obtain ⟨⟨g, sb⟩, Hg⟩ : ∃ r, Hid (nS bs sa = r) := ⟨_, ⟨rfl⟩⟩
  rw [Hg.out] at t45b Hi2
  simp only at t45b Hi2
  have hS0 : (fun w' => w'.cell? ⟨tb, 0, none⟩ = some (.pointer (some ⟨q, 0, none⟩))) w6.drew := by rw [Hwd.out]; exact HNd.out.cb
  refine wp_region_held_drew (S := (fun w' => w'.cell? ⟨tb, 0, none⟩ = some (.pointer (some ⟨q, 0, none⟩)))) (by kernel_rfl) hS0 (fun hS => ?_)
  refine wpAnyH_take (i := 0) (v := .pointer (some ⟨q, 0, none⟩)) rfl (by kernel_rfl) (by kernel_rfl) (by kernel_rfl) (fun _ _ _ h => h) (Or.inl ⟨by kernel_rfl, fun wx hx => by go_simp⟩) hS ?_
  refine wpAnyH_take (i := 2) (v := .pointer (some ⟨q, 0, none⟩)) rfl (by kernel_rfl) (by kernel_rfl) (by kernel_rfl) (fun _ _ _ h => h) (Or.inl ⟨by kernel_rfl, fun wx hx => by go_simp⟩) hS ?_
  clear hS
  rw [Hwd.out]
  refine wpAnyH_ready (rs := [1]) (by kernel_rfl) (by simp) (AllReadyH.cons rfl (fun Kc hK => ?_) AllReadyH.nil)
  go_simp
  refine t46.mono ?_
  rintro e we ⟨rfl, hTe, hCe⟩
  have HNe : Hid (NtW w we q tb r2 r3 r4 v sa A0 M) := ⟨HNd.out.call hTe hCe⟩
  have HOe : Hid (Old B we v bs) := ⟨HO.out.on (HNe.out.ch.below HBz.out (by simpa using HBq.out))⟩
  clear hTe hCe t46
  refine hK.out _ _ HNe.out.cb (fun hS => ?_)
  clear hK
  refine wpAnyH_take (i := 4) (v := .pointer (some ⟨r3, 1, none⟩)) rfl (by kernel_rfl) (by kernel_rfl) (by kernel_rfl) (fun _ _ _ h => h) (Or.inl ⟨by kernel_rfl, fun wx hx => by go_simp⟩) hS ?_
  refine wpAnyH_ready (rs := [3]) (by kernel_rfl) (by simp) (AllReadyH.cons rfl (fun Kc hK => ?_) AllReadyH.nil)
  go_simp
  refine (t45b we HNe.out.tk HOe.out).mono ?_
  rintro e wf ⟨rfl, hTf, hCf⟩
  have HNf : Hid (NtW w wf q tb r2 r3 r4 v sb A0 M) := ⟨HNe.out.call hTf hCf⟩
  clear hTf hCf t45b
  refine hK.out _ _ HNf.out.cb (fun hS => ?_)
  clear hK
  obtain ⟨A1, HA1⟩ : ∃ x, Hid (na (6 : Int) nm 0 0 (.slice none 0 0) (.slice none 0 0) (.slice none 0 0) = x) := ⟨_, ⟨rfl⟩⟩
  obtain ⟨wg, Hwg⟩ : ∃ x, Hid (wf.setCell ⟨r3, 1, none⟩ (.string nm) = x) := ⟨_, ⟨rfl⟩⟩
  have HNg : Hid (NtW w wg q tb r2 r3 r4 v sb A1 M) := ⟨by rw [← Hwg.out]; exact HNf.out.set 1 _ (by rw [← HA0.out, ← HA1.out]; rfl)⟩
  have HGwg : Hid (Chg [r3] wf wg) := ⟨by rw [← Hwg.out]; exact (Chg.refl [r3] wf).setCell (.inl (by simp)) _⟩
  obtain ⟨A2, HA2⟩ : ∃ x, Hid (na (6 : Int) nm g 0 (.slice none 0 0) (.slice none 0 0) (.slice none 0 0) = x) := ⟨_, ⟨rfl⟩⟩
  obtain ⟨w7, Hw7⟩ : ∃ x, Hid (wg.setCell ⟨r3, 2, none⟩ (.int .i64 g) = x) := ⟨_, ⟨rfl⟩⟩
  have HN7 : Hid (NtW w w7 q tb r2 r3 r4 v sb A2 M) := ⟨by rw [← Hw7.out]; exact HNg.out.set 2 _ (by rw [← HA1.out, ← HA2.out]; rfl)⟩
  have HGw7 : Hid (Chg [r3] wg w7) := ⟨by rw [← Hw7.out]; exact (Chg.refl [r3] wg).setCell (.inl (by simp)) _⟩
  have k1 : wf.cell? ⟨r3, 1, none⟩ = some (.string { data := #[] }) := by rw [HNf.out.c3, ← HA0.out]; rfl
  have f1 := HNf.out.f3 1
  have k2 : wg.cell? ⟨r3, 2, none⟩ = some (.int .i64 0) := by rw [HNg.out.c3, ← HA1.out]; rfl
  have f2 := HNg.out.f3 2
  refine wpAnyH_ready (rs := [5]) (by kernel_rfl) (by simp) (AllReadyH.cons rfl (fun Kc hK => ?_) AllReadyH.nil)
  go_simp
  rw [Hwg.out]
  refine hK.out _ _ HNg.out.cb (fun hS => ?_)
  clear hK
  refine wpAnyH_take (i := 6) (v := .pointer (some ⟨r3, 2, none⟩)) rfl (by kernel_rfl) (by kernel_rfl) (by kernel_rfl) (fun _ _ _ h => h) (Or.inl ⟨by kernel_rfl, fun wx hx => by go_simp⟩) hS ?_
  refine wpAnyH_ready (rs := [7]) (by kernel_rfl) (by simp) (AllReadyH.cons rfl (fun Kc hK => ?_) AllReadyH.nil)
  go_simp
  rw [Hw7.out]
  refine hK.out _ _ HN7.out.cb (fun hS => ?_)
  clear hK
  refine wpAnyH_done (by kernel_rfl) ?_ _
  clear hS hS0 k1 f1 k2 f2
  clear b_6 m_6_0 m_6_1 m_6_2 m_6_3 m_6_4
  have HI7 := Hi2
  have b_7 := HN7.out.cb
  have m_7_0 : w7.cell? ⟨r4, 0, none⟩ = some (.bool true) := by rw [HN7.out.c4, ← HM.out]; rfl
  have m_7_1 : w7.cell? ⟨r4, 1, none⟩ = some (.bool true) := by rw [HN7.out.c4, ← HM.out]; rfl
  have m_7_2 : w7.cell? ⟨r4, 2, none⟩ = some (.bool false) := by rw [HN7.out.c4, ← HM.out]; rfl
  have m_7_3 : w7.cell? ⟨r4, 3, none⟩ = some (.bool false) := by rw [HN7.out.c4, ← HM.out]; rfl
  have m_7_4 : w7.cell? ⟨r4, 4, none⟩ = some (.bool false) := by rw [HN7.out.c4, ← HM.out]; rfl
  have HO7 : Hid (Old B w7 v bs) := ⟨HO.out.on (HN7.out.ch.below HBz.out (by simpa using HBq.out))⟩
  go_simp
  have t45_7 := num45 HN7.out.tk HO7.out Hby.out
  have HI8 : Hid (InS bs (nS bs sb).2) := ⟨nS_in Hby.out HI7.out⟩
  obtain ⟨⟨i, sc⟩, Hi⟩ : ∃ r, Hid (nS bs sb = r) := ⟨_, ⟨rfl⟩⟩
  rw [Hi.out] at t45_7 HI8
  simp only at t45_7 HI8
  go_wp2_with fail
  refine t45_7.mono ?_
  rintro e wh ⟨rfl, hT, hC⟩
  have HNh : Hid (NtW w wh q tb r2 r3 r4 v sc A2 M) := ⟨HN7.out.call hT hC⟩
  obtain ⟨A3, HA3⟩ : ∃ x, Hid (na (6 : Int) nm g i (.slice none 0 0) (.slice none 0 0) (.slice none 0 0) = x) := ⟨_, ⟨rfl⟩⟩
  obtain ⟨w8, Hw8⟩ : ∃ x, Hid (wh.setCell ⟨r3, 3, none⟩ (.int .i64 i) = x) := ⟨_, ⟨rfl⟩⟩
  have HN8 : Hid (NtW w w8 q tb r2 r3 r4 v sc A3 M) := ⟨by rw [← Hw8.out]; exact HNh.out.set 3 _ (by rw [← HA2.out, ← HA3.out]; rfl)⟩
  have HGw8 : Hid (Chg [r3] wh w8) := ⟨by rw [← Hw8.out]; exact (Chg.refl [r3] wh).setCell (.inl (by simp)) _⟩
  have kh : wh.cell? ⟨r3, 3, none⟩ = some (.int .i64 0) := by rw [HNh.out.c3, ← HA2.out]; rfl
  have fh := HNh.out.f3 3
  clear hT hC t45_7
  clear b_7 m_7_0 m_7_1 m_7_2 m_7_3 m_7_4
  go_upto_region 9 with fail
  rw [Hw8.out]
  clear kh fh
  have b_8 := HN8.out.cb
  have m_8_0 : w8.cell? ⟨r4, 0, none⟩ = some (.bool true) := by rw [HN8.out.c4, ← HM.out]; rfl
  have m_8_1 : w8.cell? ⟨r4, 1, none⟩ = some (.bool true) := by rw [HN8.out.c4, ← HM.out]; rfl
  have m_8_2 : w8.cell? ⟨r4, 2, none⟩ = some (.bool false) := by rw [HN8.out.c4, ← HM.out]; rfl
  have m_8_3 : w8.cell? ⟨r4, 3, none⟩ = some (.bool false) := by rw [HN8.out.c4, ← HM.out]; rfl
  have m_8_4 : w8.cell? ⟨r4, 4, none⟩ = some (.bool false) := by rw [HN8.out.c4, ← HM.out]; rfl
  have HO8 : Hid (Old B w8 v bs) := ⟨HO.out.on (HN8.out.ch.below HBz.out (by simpa using HBq.out))⟩
  have HVf : Hid (R = (⟨(6 : Int), nm, g, i, [], [], []⟩, sc)) := ⟨by rw [HV.out]; unfold noteK; simp only [cond_true, cond_false, Hx.out, Hg.out, Hnm.out, Hi.out]⟩
  have HRb : Hid (R.1.s = (6 : Int) ∧ True) := ⟨by rw [HVf.out]; exact ⟨rfl, trivial⟩⟩
  have HAf : Hid ((Try.prog.info? 27).map (·.size) = some A3.size ∧ A3.all (·.oneCell') = true ∧ zn.size = A3.size) := ⟨by rw [← HA3.out]; exact ⟨info27, na_one _ _ _ _ _ _ _ _ _ _ _ _ _, rfl⟩⟩
  obtain ⟨wz, Hwz⟩ : ∃ x, Hid (w8.setRow r2 A3 = x) := ⟨_, ⟨rfl⟩⟩
  have HGz : Hid (Chg [r2] w8 wz) := ⟨by rw [← Hwz.out]; exact ⟨rfl, rfl, rfl, by simp, fun k hk hx => setRow_other _ _ k _ (by simpa using hx)⟩⟩
  have Hzf : Hid (wz.heap[r2]? = some (.cells A3 27 (0, 0))) := ⟨by rw [← Hwz.out]; exact setRow_heap _ _ zn _ 27 (0, 0) HN8.out.z2⟩
  have HTz : Hid (Tk wz q v sc) := ⟨HN8.out.tk.far HGz.out (by simp; have := Hne.out; omega)⟩
  have HCz : Hid (Chg [q] w wz) := ⟨HN8.out.ch.thenNew HGz.out (fun x hx => by simp at hx; subst hx; right; have := HN8.out.ne; omega)⟩
  go_wp2_with (first
    | (refine wp_load rfl 27 (.tmp 3) rfl r3 rfl A3 27 (0, 0) _ HN8.out.z3 Try.underlying27 rfl HAf.out.1 ?_)
    | (refine wpList_store_row rfl 27 (.tmp 2) (.tmp 49) rfl r2 A3 rfl rfl 27 zn HN8.out.z2 HAf.out.1 HAf.out.2.2 HAf.out.2.1 ?_; rw [Hwz.out]))
  refine bodyPost_ret (results_cell_row rfl _ wz r2 27 A3 (0, 0) _ (by kernel_rfl) Hzf.out Try.underlying27 rfl HAf.out.1) rfl ?_
  rw [HVf.out, ← HA3.out]
  exact ⟨none, 0, none, 0, none, 0, rfl, OwnE.nil _ _ _ _ _, OwnE.nil _ _ _ _ _, owny_nil _ _, HTz.out, HCz.out⟩
end
end Go.Proofs.Ythohpbppfihoiaa

/- The taker's note: kind 7. -/
namespace Go.Proofs.Ythohpbppfihoiaa
open Go.RowKit Go.Lib

section
variable {w : World}
set_option maxHeartbeats 8000000 in
set_option maxRecDepth 100000 in
theorem note_7 {B q : Nat} {v : Value} {bs : List Int} {st : St} (hT : Tk w q v st) (hO : Old B w v bs) (hB : B ≤ w.heap.size) (hBq : B ≤ q) (hby : ∀ x ∈ bs, 0 ≤ x ∧ x < 256) (hl : bs.length ≤ 140737488355328) (hin : InS bs st) (hs : (nS bs st).1 = 7) :
    Calls Try.prog 31 #[.pointer (some ⟨q, 0, none⟩)] w fun e w' => NoteP w w' q v (noteS bs st).1 (noteS bs st).2 e := by
  have hmf : ∀ (fn : Fn) (first cap : Array Value) (w : World), (Instr.makeFunc fn first cap).run Try.prog w = .ok (.func fn first cap) w := fun _ _ _ _ => rfl
  have HO := Hid.mk hO
  have HBz := Hid.mk hB
  have HBq := Hid.mk hBq
  have Hby := Hid.mk hby
  have Hl := Hid.mk hl
  obtain ⟨tb, Htb⟩ : ∃ x, Hid (w.heap.size = x) := ⟨_, ⟨rfl⟩⟩
  obtain ⟨wa, Hwa⟩ : ∃ x, Hid (w.alloc (.cells #[.pointer (some ⟨q, 0, none⟩)] 76) = x) := ⟨_, ⟨rfl⟩⟩
  obtain ⟨r2, Hr2⟩ : ∃ x, Hid (wa.heap.size = x) := ⟨_, ⟨rfl⟩⟩
  obtain ⟨w2, Hw2⟩ : ∃ x, Hid (wa.alloc (.cells zn 27) = x) := ⟨_, ⟨rfl⟩⟩
  have HBa : Hid (Below w.heap.size w wa) := ⟨by rw [← Hwa.out]; exact (Below.refl _ w).alloc (Nat.le_refl _) _⟩
  have HBb : Hid (Below wa.heap.size wa w2) := ⟨by rw [← Hw2.out]; exact (Below.refl _ wa).alloc (Nat.le_refl _) _⟩
  have HB2 : Hid (Below w.heap.size w w2) := ⟨HBa.out.trans (HBb.out.mono HBa.out.size)⟩
  have Hqt : Hid (q < tb) := ⟨by rw [← Htb.out]; exact hT.lt⟩
  have Htr : Hid (tb < r2) := ⟨by rw [← Hr2.out, ← Hwa.out, ← Htb.out]; simp⟩
  have HT2 : Hid (Tk w2 q v st) := ⟨hT.far (Chg.ofBelow (X := []) HB2.out) (by simp)⟩
  have Hba : Hid (wa.heap[tb]? = some (.cells #[.pointer (some ⟨q, 0, none⟩)] 76 (0, 0))) := ⟨by rw [← Hwa.out, ← Htb.out]; exact heap_alloc_new w _⟩
  have Hb2 : Hid (w2.heap[tb]? = some (.cells #[.pointer (some ⟨q, 0, none⟩)] 76 (0, 0))) := ⟨(HBb.out.block tb (by rw [Hr2.out]; exact Htr.out)).trans Hba.out⟩
  have Hz2 : Hid (w2.heap[r2]? = some (.cells zn 27 (0, 0))) := ⟨by rw [← Hw2.out, ← Hr2.out]; exact heap_alloc_new wa _⟩
  have HO2 : Hid (Old B w2 v bs) := ⟨HO.out.on (HB2.out.mono HBz.out)⟩
  have b2 : w2.cell? ⟨tb, 0, none⟩ = some (.pointer (some ⟨q, 0, none⟩)) := by rw [cell_of_row _ _ _ _ _ _ Hb2.out]; rfl
  have t45 := num45 HT2.out HO2.out hby
  have HIa : Hid (InS bs (nS bs st).2) := ⟨nS_in hby hin⟩
  obtain ⟨⟨n, s0⟩, Hn⟩ : ∃ r, Hid (nS bs st = r) := ⟨_, ⟨rfl⟩⟩
  rw [Hn.out] at t45 HIa hs
  simp only at t45 HIa hs
  subst hs
  have HV : Hid (noteS bs st = noteK (true, true, false, false, true) bs (7 : Int) s0) := ⟨by unfold noteS; rw [Hn.out]; simp only; rfl⟩
  obtain ⟨R, HR⟩ : ∃ R, Hid (noteS bs st = R) := ⟨_, ⟨rfl⟩⟩
  rw [HR.out] at HV ⊢
  obtain ⟨A0, HA0⟩ : ∃ x, Hid (na (7 : Int) { data := #[] } 0 0 (.slice none 0 0) (.slice none 0 0) (.slice none 0 0) = x) := ⟨_, ⟨rfl⟩⟩
  obtain ⟨M, HM⟩ : ∃ x, Hid (nmV (true, true, false, false, true) = x) := ⟨_, ⟨rfl⟩⟩
  have HMs : Hid ((Try.prog.info? 40).map (·.size) = some M.size ∧ M.all (·.oneCell') = true ∧ (nmV (false, false, false, false, false)).size = M.size) := ⟨by rw [← HM.out]; exact ⟨info40, nmV_one _, rfl⟩⟩
  have HAs : Hid ((Try.prog.info? 27).map (·.size) = some A0.size ∧ A0.all (·.oneCell') = true ∧ zn.size = A0.size) := ⟨by rw [← HA0.out]; exact ⟨info27, na_one _ _ _ _ _ _ _ _ _ _ _ _ _, rfl⟩⟩
  have hbu : ∀ W : World, (Instr.build 27 #[(0, .int .i64 (7 : Int))]).run Try.prog W = .ok (.agg A0) W := fun W => by rw [← HA0.out]; exact run_build27 _ W
  have t15 : ∀ W : World, Calls Try.prog 15 #[.int .i64 (7 : Int)] W fun e w' => e = .returned (.tuple #[.agg M, .bool true]) ∧ Below W.heap.size W w' := fun W => by
    have h := named15 (w := W) (7 : Int)
    rw [← HM.out]; exact h
  
  clear hT hO hB hBq hby hl hin 
  go_enter Try.func31, Try.ntmps31
  go_upto_region 1 with (refine wp_newZ zero27 rfl rfl ?_; rw [Hwa.out, Hr2.out, Hw2.out])
  rw [Htb.out]
  go_wp2_with fail
  refine t45.mono ?_
  rintro e w3 ⟨rfl, hT3, hC3⟩
  have HC3 := Hid.mk hC3
  have HT3 := Hid.mk hT3
  obtain ⟨r3, Hr3⟩ : ∃ x, Hid (w3.heap.size = x) := ⟨_, ⟨rfl⟩⟩
  obtain ⟨w4, Hw4⟩ : ∃ x, Hid ((w3.alloc (.cells zn 27)).setRow r3 A0 = x) := ⟨_, ⟨rfl⟩⟩
  have HB34 : Hid (Below w3.heap.size w3 w4) := ⟨by rw [← Hw4.out, ← Hr3.out]; exact below_setRow ((Below.refl _ w3).alloc (Nat.le_refl _) _) (Nat.le_refl _) _⟩
  have Hz34 : Hid (w4.heap[r3]? = some (.cells A0 27 (0, 0))) := ⟨by rw [← Hw4.out, ← Hr3.out]; exact setRow_heap _ _ zn _ 27 (0, 0) (heap_alloc_new w3 _)⟩
  have Hr23 : Hid (r2 < r3) := ⟨by rw [← Hr3.out]; exact Nat.lt_of_lt_of_le (Array.getElem?_eq_some_iff.1 Hz2.out).1 HC3.out.size⟩
  clear t45 hT3 hC3 b2
  go_upto_region 2 with (first
    | (refine wp_build1 (t := 27) (u := .int .i64 (7 : Int)) (C := A0) rfl (.tmp 7) rfl rfl (hbu _) ?_)
    | (refine wp_newZ zero27 rfl rfl ?_; rw [Hr3.out])
    | (refine wpList_store_row rfl 27 (.tmp 3) (.tmp 8) rfl r3 A0 rfl rfl 27 zn (by rw [← Hr3.out]; exact heap_alloc_new w3 _) HAs.out.1 HAs.out.2.2 HAs.out.2.1 ?_; rw [Hw4.out]))
  have k0 : w4.cell? ⟨r3, 0, none⟩ = some (.int .i64 (7 : Int)) := by rw [cell_of_row _ _ _ _ _ _ Hz34.out, ← HA0.out]; rfl
  clear hbu
  go_wp2_with fail
  refine (t15 w4).mono ?_
  rintro e w5 ⟨rfl, hB5⟩
  have HB5 := Hid.mk hB5
  obtain ⟨r4, Hr4⟩ : ∃ x, Hid (w5.heap.size = x) := ⟨_, ⟨rfl⟩⟩
  obtain ⟨w6, Hw6⟩ : ∃ x, Hid ((w5.alloc (.cells (nmV (false, false, false, false, false)) 40)).setRow r4 M = x) := ⟨_, ⟨rfl⟩⟩
  have HB56 : Hid (Below w5.heap.size w5 w6) := ⟨by rw [← Hw6.out, ← Hr4.out]; exact below_setRow ((Below.refl _ w5).alloc (Nat.le_refl _) _) (Nat.le_refl _) _⟩
  have Hz46 : Hid (w6.heap[r4]? = some (.cells M 40 (0, 0))) := ⟨by rw [← Hw6.out, ← Hr4.out]; exact setRow_heap _ _ (nmV (false, false, false, false, false)) _ 40 (0, 0) (heap_alloc_new w5 _)⟩
  have Hr34 : Hid (r3 < r4) := ⟨by rw [← Hr4.out]; exact Nat.lt_of_lt_of_le (Array.getElem?_eq_some_iff.1 Hz34.out).1 HB5.out.size⟩
  have Hne : Hid (q < tb ∧ tb < r2 ∧ r2 < r3 ∧ r3 < r4) := ⟨⟨Hqt.out, Htr.out, Hr23.out, Hr34.out⟩⟩
  have HB36 : Hid (Below w3.heap.size w3 w6) := ⟨HB34.out.trans ((HB5.out.trans (HB56.out.mono HB5.out.size)).mono HB34.out.size)⟩
  have HC36 : Hid (Chg [q] w2 w6) := ⟨HC3.out.trans (Chg.ofBelow HB36.out)⟩
  have HN6 : Hid (NtW w w6 q tb r2 r3 r4 v s0 A0 M) := ⟨⟨(Chg.ofBelow HB2.out).trans HC36.out, HT3.out.far (Chg.ofBelow (X := []) HB36.out) (by simp), (HC36.out.block tb (Array.getElem?_eq_some_iff.1 Hb2.out).1 (by simp; have := Hqt.out; omega)).trans Hb2.out, (HC36.out.block r2 (Array.getElem?_eq_some_iff.1 Hz2.out).1 (by simp; have := Hne.out; omega)).trans Hz2.out, ((HB5.out.trans (HB56.out.mono HB5.out.size)).block r3 (Array.getElem?_eq_some_iff.1 Hz34.out).1).trans Hz34.out, Hz46.out, by rw [Htb.out]; have := Hne.out; omega⟩⟩
  clear hB5 t15 k0
  go_upto_region 3 with (first | (refine wp_newZ zero40 rfl rfl ?_; rw [Hr4.out]) | (refine wpList_store_row rfl 40 (.tmp 4) (.tmp 13) rfl r4 M rfl rfl 40 (nmV (false, false, false, false, false)) (by rw [← Hr4.out]; exact heap_alloc_new w5 _) HMs.out.1 HMs.out.2.2 HMs.out.2.1 ?_; rw [Hw6.out]))
  have HI6 := HIa
  have b_6 := HN6.out.cb
  have m_6_0 : w6.cell? ⟨r4, 0, none⟩ = some (.bool true) := by rw [HN6.out.c4, ← HM.out]; rfl
  have m_6_1 : w6.cell? ⟨r4, 1, none⟩ = some (.bool true) := by rw [HN6.out.c4, ← HM.out]; rfl
  have m_6_2 : w6.cell? ⟨r4, 2, none⟩ = some (.bool false) := by rw [HN6.out.c4, ← HM.out]; rfl
  have m_6_3 : w6.cell? ⟨r4, 3, none⟩ = some (.bool false) := by rw [HN6.out.c4, ← HM.out]; rfl
  have m_6_4 : w6.cell? ⟨r4, 4, none⟩ = some (.bool true) := by rw [HN6.out.c4, ← HM.out]; rfl
  have HO6 : Hid (Old B w6 v bs) := ⟨HO.out.on (HN6.out.ch.below HBz.out (by simpa using HBq.out))⟩
  go_upto_region 6 with fail
  obtain ⟨wd, Hwd⟩ : ∃ x, Hid (w6.drew = x) := ⟨_, ⟨rfl⟩⟩
  have HNd : Hid (NtW w wd q tb r2 r3 r4 v s0 A0 M) := ⟨by rw [← Hwd.out]; exact HN6.out.drew⟩
  have HOd : Hid (Old B wd v bs) := ⟨HO.out.on (HNd.out.ch.below HBz.out (by simpa using HBq.out))⟩
  have t46 := name46 (w := wd) HNd.out.tk HOd.out Hby.out Hl.out
  have Hi1 : Hid (InS bs (xS bs 32 s0).2) := ⟨xS_in Hby.out 32 HI6.out⟩
  obtain ⟨⟨ps, sa⟩, Hx⟩ : ∃ r, Hid (xS bs 32 s0 = r) := ⟨_, ⟨rfl⟩⟩
  rw [Hx.out] at t46 Hi1
  simp only at t46 Hi1
  obtain ⟨nm, Hnm⟩ : ∃ r, Hid (strOfNums ps = r) := ⟨_, ⟨rfl⟩⟩
  rw [Hnm.out] at t46
  have Hi2 : Hid (InS bs (nS bs sa).2) := ⟨nS_in Hby.out Hi1.out⟩
  have t45b : ∀ W : World, Tk W q v sa → Old B W v bs → Calls Try.prog 45 #[.pointer (some ⟨q, 0, none⟩)] W fun r w' => r = .returned (.int .i64 (nS bs sa).1) ∧ Tk w' q v (nS bs sa).2 ∧ Chg [q] W w' := fun W h k => num45 h k Hby.out
  obtain ⟨⟨g, sb⟩, Hg⟩ : ∃ r, Hid (nS bs sa = r) := ⟨_, ⟨rfl⟩⟩
  rw [Hg.out] at t45b Hi2
  simp only at t45b Hi2
  have hS0 : (fun w' => w'.cell? ⟨tb, 0, none⟩ = some (.pointer (some ⟨q, 0, none⟩))) w6.drew := by rw [Hwd.out]; exact HNd.out.cb
  refine wp_region_held_drew (S := (fun w' => w'.cell? ⟨tb, 0, none⟩ = some (.pointer (some ⟨q, 0, none⟩)))) (by kernel_rfl) hS0 (fun hS => ?_)
  refine wpAnyH_take (i := 0) (v := .pointer (some ⟨q, 0, none⟩)) rfl (by kernel_rfl) (by kernel_rfl) (by kernel_rfl) (fun _ _ _ h => h) (Or.inl ⟨by kernel_rfl, fun wx hx => by go_simp⟩) hS ?_
  refine wpAnyH_take (i := 2) (v := .pointer (some ⟨q, 0, none⟩)) rfl (by kernel_rfl) (by kernel_rfl) (by kernel_rfl) (fun _ _ _ h => h) (Or.inl ⟨by kernel_rfl, fun wx hx => by go_simp⟩) hS ?_
  clear hS
  rw [Hwd.out]
  refine wpAnyH_ready (rs := [1]) (by kernel_rfl) (by simp) (AllReadyH.cons rfl (fun Kc hK => ?_) AllReadyH.nil)
  go_simp
  refine t46.mono ?_
  rintro e we ⟨rfl, hTe, hCe⟩
  have HNe : Hid (NtW w we q tb r2 r3 r4 v sa A0 M) := ⟨HNd.out.call hTe hCe⟩
  have HOe : Hid (Old B we v bs) := ⟨HO.out.on (HNe.out.ch.below HBz.out (by simpa using HBq.out))⟩
  clear hTe hCe t46
  refine hK.out _ _ HNe.out.cb (fun hS => ?_)
  clear hK
  refine wpAnyH_take (i := 4) (v := .pointer (some ⟨r3, 1, none⟩)) rfl (by kernel_rfl) (by kernel_rfl) (by kernel_rfl) (fun _ _ _ h => h) (Or.inl ⟨by kernel_rfl, fun wx hx => by go_simp⟩) hS ?_
  refine wpAnyH_ready (rs := [3]) (by kernel_rfl) (by simp) (AllReadyH.cons rfl (fun Kc hK => ?_) AllReadyH.nil)
  go_simp
  refine (t45b we HNe.out.tk HOe.out).mono ?_
  rintro e wf ⟨rfl, hTf, hCf⟩
  have HNf : Hid (NtW w wf q tb r2 r3 r4 v sb A0 M) := ⟨HNe.out.call hTf hCf⟩
  clear hTf hCf t45b
  refine hK.out _ _ HNf.out.cb (fun hS => ?_)
  clear hK
  obtain ⟨A1, HA1⟩ : ∃ x, Hid (na (7 : Int) nm 0 0 (.slice none 0 0) (.slice none 0 0) (.slice none 0 0) = x) := ⟨_, ⟨rfl⟩⟩
  obtain ⟨wg, Hwg⟩ : ∃ x, Hid (wf.setCell ⟨r3, 1, none⟩ (.string nm) = x) := ⟨_, ⟨rfl⟩⟩
  have HNg : Hid (NtW w wg q tb r2 r3 r4 v sb A1 M) := ⟨by rw [← Hwg.out]; exact HNf.out.set 1 _ (by rw [← HA0.out, ← HA1.out]; rfl)⟩
  have HGwg : Hid (Chg [r3] wf wg) := ⟨by rw [← Hwg.out]; exact (Chg.refl [r3] wf).setCell (.inl (by simp)) _⟩
  obtain ⟨A2, HA2⟩ : ∃ x, Hid (na (7 : Int) nm g 0 (.slice none 0 0) (.slice none 0 0) (.slice none 0 0) = x) := ⟨_, ⟨rfl⟩⟩
  obtain ⟨w7, Hw7⟩ : ∃ x, Hid (wg.setCell ⟨r3, 2, none⟩ (.int .i64 g) = x) := ⟨_, ⟨rfl⟩⟩
  have HN7 : Hid (NtW w w7 q tb r2 r3 r4 v sb A2 M) := ⟨by rw [← Hw7.out]; exact HNg.out.set 2 _ (by rw [← HA1.out, ← HA2.out]; rfl)⟩
  have HGw7 : Hid (Chg [r3] wg w7) := ⟨by rw [← Hw7.out]; exact (Chg.refl [r3] wg).setCell (.inl (by simp)) _⟩
  have k1 : wf.cell? ⟨r3, 1, none⟩ = some (.string { data := #[] }) := by rw [HNf.out.c3, ← HA0.out]; rfl
  have f1 := HNf.out.f3 1
  have k2 : wg.cell? ⟨r3, 2, none⟩ = some (.int .i64 0) := by rw [HNg.out.c3, ← HA1.out]; rfl
  have f2 := HNg.out.f3 2
  refine wpAnyH_ready (rs := [5]) (by kernel_rfl) (by simp) (AllReadyH.cons rfl (fun Kc hK => ?_) AllReadyH.nil)
  go_simp
  rw [Hwg.out]
  refine hK.out _ _ HNg.out.cb (fun hS => ?_)
  clear hK
  refine wpAnyH_take (i := 6) (v := .pointer (some ⟨r3, 2, none⟩)) rfl (by kernel_rfl) (by kernel_rfl) (by kernel_rfl) (fun _ _ _ h => h) (Or.inl ⟨by kernel_rfl, fun wx hx => by go_simp⟩) hS ?_
  refine wpAnyH_ready (rs := [7]) (by kernel_rfl) (by simp) (AllReadyH.cons rfl (fun Kc hK => ?_) AllReadyH.nil)
  go_simp
  rw [Hw7.out]
  refine hK.out _ _ HN7.out.cb (fun hS => ?_)
  clear hK
  refine wpAnyH_done (by kernel_rfl) ?_ _
  clear hS hS0 k1 f1 k2 f2
  clear b_6 m_6_0 m_6_1 m_6_2 m_6_3 m_6_4
  have HI7 := Hi2
  have b_7 := HN7.out.cb
  have m_7_0 : w7.cell? ⟨r4, 0, none⟩ = some (.bool true) := by rw [HN7.out.c4, ← HM.out]; rfl
  have m_7_1 : w7.cell? ⟨r4, 1, none⟩ = some (.bool true) := by rw [HN7.out.c4, ← HM.out]; rfl
  have m_7_2 : w7.cell? ⟨r4, 2, none⟩ = some (.bool false) := by rw [HN7.out.c4, ← HM.out]; rfl
  have m_7_3 : w7.cell? ⟨r4, 3, none⟩ = some (.bool false) := by rw [HN7.out.c4, ← HM.out]; rfl
  have m_7_4 : w7.cell? ⟨r4, 4, none⟩ = some (.bool true) := by rw [HN7.out.c4, ← HM.out]; rfl
  have HO7 : Hid (Old B w7 v bs) := ⟨HO.out.on (HN7.out.ch.below HBz.out (by simpa using HBq.out))⟩
  go_simp
  have t45_7 := num45 HN7.out.tk HO7.out Hby.out
  have HI8 : Hid (InS bs (nS bs sb).2) := ⟨nS_in Hby.out HI7.out⟩
  obtain ⟨⟨i, sc⟩, Hi⟩ : ∃ r, Hid (nS bs sb = r) := ⟨_, ⟨rfl⟩⟩
  rw [Hi.out] at t45_7 HI8
  simp only at t45_7 HI8
  go_wp2_with fail
  refine t45_7.mono ?_
  rintro e wh ⟨rfl, hT, hC⟩
  have HNh : Hid (NtW w wh q tb r2 r3 r4 v sc A2 M) := ⟨HN7.out.call hT hC⟩
  obtain ⟨A3, HA3⟩ : ∃ x, Hid (na (7 : Int) nm g i (.slice none 0 0) (.slice none 0 0) (.slice none 0 0) = x) := ⟨_, ⟨rfl⟩⟩
  obtain ⟨w8, Hw8⟩ : ∃ x, Hid (wh.setCell ⟨r3, 3, none⟩ (.int .i64 i) = x) := ⟨_, ⟨rfl⟩⟩
  have HN8 : Hid (NtW w w8 q tb r2 r3 r4 v sc A3 M) := ⟨by rw [← Hw8.out]; exact HNh.out.set 3 _ (by rw [← HA2.out, ← HA3.out]; rfl)⟩
  have HGw8 : Hid (Chg [r3] wh w8) := ⟨by rw [← Hw8.out]; exact (Chg.refl [r3] wh).setCell (.inl (by simp)) _⟩
  have kh : wh.cell? ⟨r3, 3, none⟩ = some (.int .i64 0) := by rw [HNh.out.c3, ← HA2.out]; rfl
  have fh := HNh.out.f3 3
  clear hT hC t45_7
  clear b_7 m_7_0 m_7_1 m_7_2 m_7_3 m_7_4
  go_upto_region 9 with fail
  rw [Hw8.out]
  clear kh fh
  have b_8 := HN8.out.cb
  have m_8_0 : w8.cell? ⟨r4, 0, none⟩ = some (.bool true) := by rw [HN8.out.c4, ← HM.out]; rfl
  have m_8_1 : w8.cell? ⟨r4, 1, none⟩ = some (.bool true) := by rw [HN8.out.c4, ← HM.out]; rfl
  have m_8_2 : w8.cell? ⟨r4, 2, none⟩ = some (.bool false) := by rw [HN8.out.c4, ← HM.out]; rfl
  have m_8_3 : w8.cell? ⟨r4, 3, none⟩ = some (.bool false) := by rw [HN8.out.c4, ← HM.out]; rfl
  have m_8_4 : w8.cell? ⟨r4, 4, none⟩ = some (.bool true) := by rw [HN8.out.c4, ← HM.out]; rfl
  have HO8 : Hid (Old B w8 v bs) := ⟨HO.out.on (HN8.out.ch.below HBz.out (by simpa using HBq.out))⟩
  have tl := text52 (w := w8) 512 HN8.out.tk HO8.out Hby.out Hl.out
  have HI9 : Hid (InS bs (xS bs 512 sc).2) := ⟨xS_in Hby.out 512 HI8.out⟩
  obtain ⟨⟨y, sd⟩, Hlst⟩ : ∃ r, Hid (xS bs 512 sc = r) := ⟨_, ⟨rfl⟩⟩
  rw [Hlst.out] at tl HI9
  simp only at tl HI9
  obtain ⟨zl, Hzl⟩ : ∃ x, Hid (w8.heap.size = x) := ⟨_, ⟨rfl⟩⟩
  have Hzr : Hid (r4 < zl) := ⟨by rw [← Hzl.out]; exact (Array.getElem?_eq_some_iff.1 HN8.out.z4).1⟩
  rw [Hzl.out] at tl
  obtain ⟨nl, Hnl⟩ : ∃ x, Hid (y.length = x) := ⟨_, ⟨rfl⟩⟩
  rw [Hnl.out] at tl
  go_wp2_with fail
  refine tl.mono ?_
  rintro e wh ⟨al, cl, rfl, hOl, hT, hC⟩
  have HOl_wh := Hid.mk hOl
  have HNh : Hid (NtW w wh q tb r2 r3 r4 v sd A3 M) := ⟨HN8.out.call hT hC⟩
  obtain ⟨A4, HA4⟩ : ∃ x, Hid (na (7 : Int) nm g i (.slice none 0 0) (.slice none 0 0) (.slice al nl cl) = x) := ⟨_, ⟨rfl⟩⟩
  obtain ⟨w9, Hw9⟩ : ∃ x, Hid (wh.setCell ⟨r3, 6, none⟩ (.slice al nl cl) = x) := ⟨_, ⟨rfl⟩⟩
  have HN9 : Hid (NtW w w9 q tb r2 r3 r4 v sd A4 M) := ⟨by rw [← Hw9.out]; exact HNh.out.set 6 _ (by rw [← HA3.out, ← HA4.out]; rfl)⟩
  have HGw9 : Hid (Chg [r3] wh w9) := ⟨by rw [← Hw9.out]; exact (Chg.refl [r3] wh).setCell (.inl (by simp)) _⟩
  have kh : wh.cell? ⟨r3, 6, none⟩ = some (.slice none 0 0) := by rw [HNh.out.c3, ← HA3.out]; rfl
  have fh := HNh.out.f3 6
  clear hT hC tl hOl
  clear b_8 m_8_0 m_8_1 m_8_2 m_8_3 m_8_4
  have HOl_w9 : Hid (OwnY w9 zl (.slice al nl cl) y) := ⟨own_far HOl_wh.out HGw9.out (fun g hg hm => by simp at hm; have := own_geY HOl_wh.out g (mem_ob.2 hg); have := Hzr.out; have := Hne.out; omega)⟩
  go_upto_region 15 with fail
  rw [Hw9.out]
  clear kh fh
  have b_9 := HN9.out.cb
  have m_9_0 : w9.cell? ⟨r4, 0, none⟩ = some (.bool true) := by rw [HN9.out.c4, ← HM.out]; rfl
  have m_9_1 : w9.cell? ⟨r4, 1, none⟩ = some (.bool true) := by rw [HN9.out.c4, ← HM.out]; rfl
  have m_9_2 : w9.cell? ⟨r4, 2, none⟩ = some (.bool false) := by rw [HN9.out.c4, ← HM.out]; rfl
  have m_9_3 : w9.cell? ⟨r4, 3, none⟩ = some (.bool false) := by rw [HN9.out.c4, ← HM.out]; rfl
  have m_9_4 : w9.cell? ⟨r4, 4, none⟩ = some (.bool true) := by rw [HN9.out.c4, ← HM.out]; rfl
  have HO9 : Hid (Old B w9 v bs) := ⟨HO.out.on (HN9.out.ch.below HBz.out (by simpa using HBq.out))⟩
  have HVf : Hid (R = (⟨(7 : Int), nm, g, i, [], [], y⟩, sd)) := ⟨by rw [HV.out]; unfold noteK; simp only [cond_true, cond_false, Hx.out, Hg.out, Hnm.out, Hi.out, Hlst.out]⟩
  have HRb : Hid (R.1.s = (7 : Int) ∧ True) := ⟨by rw [HVf.out]; exact ⟨rfl, trivial⟩⟩
  have HAf : Hid ((Try.prog.info? 27).map (·.size) = some A4.size ∧ A4.all (·.oneCell') = true ∧ zn.size = A4.size) := ⟨by rw [← HA4.out]; exact ⟨info27, na_one _ _ _ _ _ _ _ _ _ _ _ _ _, rfl⟩⟩
  obtain ⟨wz, Hwz⟩ : ∃ x, Hid (w9.setRow r2 A4 = x) := ⟨_, ⟨rfl⟩⟩
  have HGz : Hid (Chg [r2] w9 wz) := ⟨by rw [← Hwz.out]; exact ⟨rfl, rfl, rfl, by simp, fun k hk hx => setRow_other _ _ k _ (by simpa using hx)⟩⟩
  have Hzf : Hid (wz.heap[r2]? = some (.cells A4 27 (0, 0))) := ⟨by rw [← Hwz.out]; exact setRow_heap _ _ zn _ 27 (0, 0) HN9.out.z2⟩
  have HTz : Hid (Tk wz q v sd) := ⟨HN9.out.tk.far HGz.out (by simp; have := Hne.out; omega)⟩
  have HCz : Hid (Chg [q] w wz) := ⟨HN9.out.ch.thenNew HGz.out (fun x hx => by simp at hx; subst hx; right; have := HN9.out.ne; omega)⟩
  have HOl_wz : Hid (OwnY wz zl (.slice al nl cl) y) := ⟨own_far HOl_w9.out HGz.out (fun g hg hm => by simp at hm; have := own_geY HOl_w9.out g (mem_ob.2 hg); have := Hzr.out; have := Hne.out; omega)⟩
  go_wp2_with (first
    | (refine wp_load rfl 27 (.tmp 3) rfl r3 rfl A4 27 (0, 0) _ HN9.out.z3 Try.underlying27 rfl HAf.out.1 ?_)
    | (refine wpList_store_row rfl 27 (.tmp 2) (.tmp 49) rfl r2 A4 rfl rfl 27 zn HN9.out.z2 HAf.out.1 HAf.out.2.2 HAf.out.2.1 ?_; rw [Hwz.out]))
  refine bodyPost_ret (results_cell_row rfl _ wz r2 27 A4 (0, 0) _ (by kernel_rfl) Hzf.out Try.underlying27 rfl HAf.out.1) rfl ?_
  rw [HVf.out, ← HA4.out]
  exact ⟨none, 0, none, 0, al, cl, by rw [← Hnl.out]; rfl, OwnE.nil _ _ _ _ _, OwnE.nil _ _ _ _ _, by rw [show (y : List Int).length = nl from Hnl.out]; exact Oct.OwnB.mono HOl_wz.out (by rw [← Hzl.out]; exact HN8.out.ch.size), HTz.out, HCz.out⟩
end
end Go.Proofs.Ythohpbppfihoiaa
