/- The taker's lists. -/
import Derived.Test.YthohpbppfihoiaaX3
import Derived.Deep.LoopGhost
namespace Go.Proofs.Ythohpbppfihoiaa
open Go.RowKit Go.Lib

/-- As many elements as there are to take, up to the first fault. -/
def rep {α : Type} (f : St → α × St) : Nat → St → List α × St
  | 0, st => ([], st)
  | k + 1, st => if st.2 = 0 then ((f st).1 :: (rep f k (f st).2).1, (rep f k (f st).2).2) else ([], st)
theorem rep_ok {α : Type} (f : St → α × St) (k : Nat) (st : St) (h : st.2 = 0) : rep f (k + 1) st = ((f st).1 :: (rep f k (f st).2).1, (rep f k (f st).2).2) := by rw [rep, if_pos h]
theorem rep_stop {α : Type} (f : St → α × St) (k : Nat) (st : St) (h : st.2 ≠ 0) : rep f k st = ([], st) := by
  cases k with
  | zero => rfl
  | succ k => rw [rep, if_neg h]
theorem rep_len {α : Type} (f : St → α × St) : ∀ (k : Nat) (st : St), (rep f k st).1.length ≤ k
  | 0, _ => Nat.le_refl _
  | k + 1, st => by
    by_cases h : st.2 = 0
    · rw [rep_ok f k st h]; have := rep_len f k (f st).2; simp only [List.length_cons]; omega
    · rw [rep_stop f _ st h]; simp
theorem rep_in {α : Type} {bs : List Int} (f : St → α × St) (hf : ∀ st, InS bs st → InS bs (f st).2) : ∀ (k : Nat) (st : St), InS bs st → InS bs (rep f k st).2
  | 0, _, h => h
  | k + 1, st, h => by
    by_cases h0 : st.2 = 0
    · rw [rep_ok f k st h0]; exact rep_in f hf k _ (hf st h)
    · rw [rep_stop f _ st h0]; exact h
/-- What takeList takes. -/
def lS {α : Type} (bs : List Int) (most : Int) (f : St → α × St) (st : St) : List α × St :=
  rep f (nS bs st).1.toNat (if most < (nS bs st).1 then flS (nS bs st).2 6 else (nS bs st).2)
theorem lS_in {α : Type} {bs : List Int} {st : St} (hb : ∀ x ∈ bs, 0 ≤ x ∧ x < 256) (most : Int) (f : St → α × St) (hf : ∀ st, InS bs st → InS bs (f st).2) (h : InS bs st) : InS bs (lS bs most f st).2 := by
  unfold lS
  refine rep_in f hf _ _ ?_
  split
  · exact flS_in (nS_in hb h) 6
  · exact nS_in hb h
theorem flS_fault (st : St) (e : Int) (he : e ≠ 0) : (flS st e).2 ≠ 0 := by
  unfold flS
  split
  · exact he
  · assumption
theorem lS_len {α : Type} (bs : List Int) (most : Nat) (f : St → α × St) (st : St) : (lS bs most f st).1.length ≤ most := by
  unfold lS
  by_cases h : (most : Int) < (nS bs st).1
  · rw [if_pos h, rep_stop f _ _ (flS_fault _ 6 (by decide))]; simp
  · rw [if_neg h]
    have := rep_len f (nS bs st).1.toNat (nS bs st).2
    omega
theorem eltHd : Elt Try.prog 23 46 2 24 := by
  have h1 : ((Try.prog.info? 46).map (fun i => (i.size, i.bytes, (i.zero.map (fun z => z.cells.size))))) = some (2, 24, some 2) := by kernel_rfl
  refine ⟨Try.underlying23, ?_, by decide⟩
  cases hi : Try.prog.info? 46 with
  | none => rw [hi] at h1; simp at h1
  | some i =>
    rw [hi] at h1
    simp at h1
    obtain ⟨h1, h2, z, h3, h4⟩ := h1
    exact ⟨i, z, rfl, h3, h1, h2, h4⟩
theorem eltPt : Elt Try.prog 24 49 33 40 := by
  have h1 : ((Try.prog.info? 49).map (fun i => (i.size, i.bytes, (i.zero.map (fun z => z.cells.size))))) = some (33, 40, some 33) := by kernel_rfl
  refine ⟨Try.underlying24, ?_, by decide⟩
  cases hi : Try.prog.info? 49 with
  | none => rw [hi] at h1; simp at h1
  | some i =>
    rw [hi] at h1
    simp at h1
    obtain ⟨h1, h2, z, h3, h4⟩ := h1
    exact ⟨i, z, rfl, h3, h1, h2, h4⟩
section
variable {w : World}
set_option maxHeartbeats 8000000 in
set_option maxRecDepth 100000 in
theorem list47 {B q tb : Nat} {v : Value} {bs : List Int} {st : St} (hT : Tk w q v st) (hO : Old B w v bs) (hB : B ≤ w.heap.size) (hBq : B ≤ q) (htb : w.heap[tb]? = some (.cells #[.pointer (some ⟨q, 0, none⟩)] 76 (0, 0))) (hne : tb ≠ q) (hby : ∀ x ∈ bs, 0 ≤ x ∧ x < 256) (hl : bs.length ≤ 140737488355328) (hin : InS bs st) :
    Calls Try.prog 47 #[.pointer (some ⟨q, 0, none⟩), .int .i64 64, .func (.func 48) #[] #[.pointer (some ⟨tb, 0, none⟩)]] w fun e w' => ∃ a k, e = .returned (.slice a (lS bs 64 (hS bs) st).1.length k) ∧ OwnE he 2 46 w' w.heap.size (.slice a (lS bs 64 (hS bs) st).1.length k) (lS bs 64 (hS bs) st).1 ∧ Tk w' q v (lS bs 64 (hS bs) st).2 ∧ Chg [q] w w' := by
  obtain ⟨R, HV⟩ : ∃ R, Hid (lS bs 64 (hS bs) st = R) := ⟨_, ⟨rfl⟩⟩
  rw [HV.out]
  obtain ⟨z, Hz⟩ : ∃ z, Hid (w.heap.size = z) := ⟨_, ⟨rfl⟩⟩
  have HO := Hid.mk hO
  have HBz := Hid.mk hB
  have HBq := Hid.mk hBq
  have HX := Hid.mk htb
  have Hne := Hid.mk hne
  have Hby := Hid.mk hby
  have Hl := Hid.mk hl
  have Hqz : Hid (q < z) := ⟨by rw [← Hz.out]; exact hT.lt⟩
  have t45 := num45 hT hO hby
  have hn0 := nS_num (st := st) hby
  have hin2 := nS_in hby hin
  unfold lS at HV
  obtain ⟨⟨n, sa⟩, Hn⟩ : ∃ r, Hid (nS bs st = r) := ⟨_, ⟨rfl⟩⟩
  rw [Hn.out] at t45 hn0 hin2 HV
  simp only at t45 hn0 hin2 HV
  obtain ⟨m, rfl⟩ := Int.eq_ofNat_of_zero_le hn0.1
  have Hia := Hid.mk hin2
  have hm9 : m ≤ 9007199254740991 := by omega
  simp only [Int.toNat_natCast] at HV
  clear hT hO hB hBq htb hne hby hl hin hin2 hn0
  by_cases hbig : (64 : Int) < (m : Int)
  · rw [if_pos hbig] at HV
    have Hff := Hid.mk (flS_fault sa 6 (by decide))
    have HIs : Hid (InS bs (flS sa 6)) := ⟨flS_in Hia.out 6⟩
    have t32 : ∀ W : World, Tk W q v sa → Calls Try.prog 32 #[.pointer (some ⟨q, 0, none⟩), .int .i64 6] W fun r w' => r = .returned (.tuple #[]) ∧ Tk w' q v (flS sa 6) ∧ Chg [q] W w' := fun W h => fail32 h 6
    obtain ⟨sf, Hsf⟩ : ∃ r, Hid (flS sa 6 = r) := ⟨_, ⟨rfl⟩⟩
    rw [Hsf.out] at HV Hff HIs t32
    have HRe := Hid.mk (rep_stop (hS bs) m sf Hff.out)
    rw [HRe.out] at HV
    obtain ⟨i1, f1⟩ := sf
    have hf' : (f1 == 0) = false := by simpa using Hff.out
    have hpos : (0 : Int) < (m : Int) := by omega
    go_enter Try.func47, Try.ntmps47
    go_wp2_with fail
    refine t45.mono ?_
    rintro e w2 ⟨rfl, hT2, hC2⟩
    clear t45
    have HC2 := Hid.mk hC2
    go_wp2_with fail
    refine (t32 w2 hT2).mono ?_
    rintro e w3 ⟨rfl, hT3, hC3⟩
    have HT3 := Hid.mk hT3
    have HC3 : Hid (Chg [q] w w3) := ⟨HC2.out.trans hC3⟩
    have c2 := HT3.out.c2
    simp only at c2
    clear t32 hT2 hC2 hT3 hC3
    go_wp2_with fail
    go_loop [8] (fun s8 => s8 = .slice none 0 0) (fun _ => 0)
    case atStart => rfl
    case round =>
      obtain rfl := hrel
      go_wp2_with fail
      go_ret
      rw [← HV.out]
      exact ⟨none, 0, rfl, OwnE.nil _ _ _ _ _, HT3.out, HC3.out⟩
  · rw [if_neg hbig] at HV
    have HNm : Hid (m ≤ 64) := ⟨by omega⟩
    have HIs := Hia
    go_enter Try.func47, Try.ntmps47
    go_wp2_with fail
    refine t45.mono ?_
    rintro e w2 ⟨rfl, hT2, hC2⟩
    clear t45
    have HTs := Hid.mk hT2
    have HCs := Hid.mk hC2
    clear hT2 hC2
    go_wp2_with fail
    go_loopg [8] m (fun gg s8 wr => ∃ (L : List Hd) (s1 : St), L.length ≤ m ∧ m - L.length ≤ gg ∧ (∃ a c, s8 = .slice a L.length c) ∧ Hid (OwnE he 2 46 wr z s8 L) ∧ Hid (Tk wr q v s1) ∧ Hid (Chg [q] w wr) ∧ Hid (rep (hS bs) m sa = (L ++ (rep (hS bs) (m - L.length) s1).1, (rep (hS bs) (m - L.length) s1).2)) ∧ Hid (InS bs s1))
    case atStart => exact ⟨[], sa, Nat.zero_le _, by simp, ⟨none, 0, rfl⟩, ⟨OwnE.nil _ _ _ _ _⟩, HTs, HCs, ⟨by simp⟩, HIs⟩
    case round =>
      obtain ⟨L, s1, hL, hgg, ⟨a8, c8, rfl⟩, HOl, HT, HC, HRp, HI⟩ := hrel
      rename World => wo
      obtain ⟨k, Hk⟩ : ∃ k, Hid (L.length = k) := ⟨_, ⟨rfl⟩⟩
      rw [Hk.out] at hL hgg HOl HRp
      rw [Hk.out]
      have c2 := HT.out.c2
      obtain ⟨i1, f1⟩ := s1
      simp only at c2
      by_cases hlt : k < m
      · have hltz : (k : Int) < (m : Int) := by omega
        by_cases hf : f1 = 0
        · subst hf
          have HRs := Hid.mk (rep_ok (hS bs) (m - (k + 1)) (i1, 0) rfl)
          have HNk : Hid (m - k = m - (k + 1) + 1) := ⟨by omega⟩
          rw [HNk.out, HRs.out] at HRp
          have HOb : Hid (Old B wo v bs) := ⟨HO.out.on (HC.out.below HBz.out (by simpa using HBq.out))⟩
          have Htb : Hid (wo.heap[tb]? = some (.cells #[.pointer (some ⟨q, 0, none⟩)] 76 (0, 0))) := ⟨(HC.out.block tb (Array.getElem?_eq_some_iff.1 HX.out).1 (by simpa using Hne.out)).trans HX.out⟩
          have t48 := held48 (w := wo) HT.out HOb.out (Nat.le_trans HBz.out HC.out.size) HBq.out Htb.out Hne.out Hby.out Hl.out
          have HIn : Hid (InS bs (hS bs (i1, 0)).2) := ⟨hS_in Hby.out HI.out⟩
          obtain ⟨⟨E, s2⟩, HE⟩ : ∃ r, Hid (hS bs (i1, 0) = r) := ⟨_, ⟨rfl⟩⟩
          rw [HE.out] at t48 HRp HIn
          simp only at t48 HRp HIn
          obtain ⟨C, HCe⟩ : ∃ r, Hid ((he E).toArray = r) := ⟨_, ⟨rfl⟩⟩
          rw [HCe.out] at t48
          have HCsz : Hid (C.size = 2) := ⟨by rw [← HCe.out]; rfl⟩
          have HE1 : Hid (∀ u ∈ he E, u.oneCell' = true) := ⟨by intro u hu; simp [he] at hu; rcases hu with rfl | rfl <;> rfl⟩
          go_wp2_with fail
          refine t48.mono ?_
          rintro e w2 ⟨rfl, hT2, hC2⟩
          have HT2 := Hid.mk hT2
          have HC2 := Hid.mk hC2
          obtain ⟨z2, Hz2⟩ : ∃ z, Hid (w2.heap.size = z) := ⟨_, ⟨rfl⟩⟩
          obtain ⟨w3, Hw3⟩ : ∃ x, Hid (w2.alloc (.cells C 46) = x) := ⟨_, ⟨rfl⟩⟩
          have HB3 : Hid (Below w2.heap.size w2 w3) := ⟨by rw [← Hw3.out]; exact (Below.refl _ w2).alloc (Nat.le_refl _) _⟩
          have HR3 : Hid (RdE he 2 h0 w3 (.slice (some ⟨z2, 0, none⟩) 1 1) [E]) := ⟨by rw [← Hw3.out, ← Hz2.out, ← HCe.out]; exact rde_one w2 E (by have := HCsz.out; rw [← HCe.out, List.size_toArray] at this; exact this) HE1.out 46⟩
          have Hob : Hid (∀ g ∈ ob (Value.slice a8 k c8), z ≤ g ∧ g < wo.heap.size ∧ g ≠ q) := ⟨fun g hg => by
            have h1 := HOl.out.lt g hg
            have h2 := Hqz.out
            exact ⟨h1.1, h1.2, by omega⟩⟩
          have HO3 : Hid (OwnE he 2 46 w3 z (.slice a8 k c8) L) := ⟨(HOl.out.far HC2.out (fun g hg hm => by simp at hm; exact (Hob.out g hg).2.2 hm)).far (Chg.ofBelow (X := []) HB3.out) (by simp)⟩
          have HT3 : Hid (Tk w3 q v s2) := ⟨HT2.out.far (Chg.ofBelow (X := []) HB3.out) (by simp)⟩
          have HC3 : Hid (Chg [q] w w3) := ⟨(HC.out.trans HC2.out).trans (Chg.ofBelow HB3.out)⟩
          clear hT2 hC2 t48 c2
          go_wp2_with (first
            | (refine wp_sliceE eltHd rfl (.tmp 29) rfl C rfl HCsz.out (by decide) ?_; rw [Hz2.out, Hw3.out])
            | (at_builtin; refine wp_appE (f := he) (d := h0) (L := L) (M := [E]) eltHd rfl (.tmp 27) (.tmp 30) rfl rfl HO3.out rfl HR3.out (by have := Hk.out; have := HNm.out; simp only [List.length_cons, List.length_nil]; omega) (by have := Hk.out; have := HNm.out; unfold maxLen; simp only [List.length_cons, List.length_nil]; omega) (by rw [← Hz.out]; exact HC3.out.size) ?_; intro v4 w4 hO4 hG4 hV4))
          have HO4 := Hid.mk hO4
          have HT4 : Hid (Tk w4 q v s2) := ⟨HT3.out.far hG4 (fun hm => (Hob.out q hm).2.2 rfl)⟩
          have HC4 : Hid (Chg [q] w w4) := ⟨HC3.out.thenNew hG4 (fun x hx => .inr (by rw [Hz.out]; exact (Hob.out x hx).1))⟩
          obtain ⟨a4, c4, e4, _⟩ := (HO4.out.rd h0).shape
          subst e4
          have Hk4 : Hid ((L ++ [E]).length = k + 1) := ⟨by rw [List.length_append, Hk.out]; rfl⟩
          have HRp4 : Hid (rep (hS bs) m sa = ((L ++ [E]) ++ (rep (hS bs) (m - (L ++ [E]).length) s2).1, (rep (hS bs) (m - (L ++ [E]).length) s2).2)) := ⟨by rw [Hk4.out, HRp.out, List.append_assoc]; rfl⟩
          clear hO4 hG4 hV4
          go_roundg (m - (k + 1))
          case measure => omega
          case rel => exact ⟨L ++ [E], s2, by rw [Hk4.out]; omega, by rw [Hk4.out]; exact Nat.le_refl _, ⟨_, _, rfl⟩, HO4, HT4, HC4, HRp4, HIn⟩
        · have hf' : (f1 == 0) = false := by simpa using hf
          have HRe : Hid (rep (hS bs) m sa = (L, (i1, f1))) := ⟨by rw [HRp.out, rep_stop _ _ _ hf, List.append_nil]⟩
          rw [HRe.out] at HV
          go_wp2_with fail
          go_ret
          rw [← HV.out]
          exact ⟨a8, c8, by rw [Hk.out]; rfl, by rw [Hk.out, Hz.out]; exact HOl.out, HT.out, HC.out⟩
      · obtain rfl : k = m := by omega
        have hltz : ¬ (k : Int) < (k : Int) := by omega
        have HRe : Hid (rep (hS bs) k sa = (L, (i1, f1))) := ⟨by rw [HRp.out, Nat.sub_self]; simp [rep]⟩
        rw [HRe.out] at HV
        go_wp2_with fail
        go_ret
        rw [← HV.out]
        exact ⟨a8, c8, by rw [Hk.out]; rfl, by rw [Hk.out, Hz.out]; exact HOl.out, HT.out, HC.out⟩
set_option maxHeartbeats 8000000 in
set_option maxRecDepth 100000 in
theorem list49 {B q tb : Nat} {v : Value} {bs : List Int} {st : St} (hT : Tk w q v st) (hO : Old B w v bs) (hB : B ≤ w.heap.size) (hBq : B ≤ q) (htb : w.heap[tb]? = some (.cells #[.pointer (some ⟨q, 0, none⟩)] 76 (0, 0))) (hne : tb ≠ q) (hby : ∀ x ∈ bs, 0 ≤ x ∧ x < 256) (hl : bs.length ≤ 140737488355328) (hin : InS bs st) :
    Calls Try.prog 49 #[.pointer (some ⟨q, 0, none⟩), .int .i64 256, .func (.func 50) #[] #[.pointer (some ⟨tb, 0, none⟩)]] w fun e w' => ∃ a k, e = .returned (.slice a (lS bs 256 (pS bs) st).1.length k) ∧ OwnE pe 33 49 w' w.heap.size (.slice a (lS bs 256 (pS bs) st).1.length k) (lS bs 256 (pS bs) st).1 ∧ Tk w' q v (lS bs 256 (pS bs) st).2 ∧ Chg [q] w w' := by
  obtain ⟨R, HV⟩ : ∃ R, Hid (lS bs 256 (pS bs) st = R) := ⟨_, ⟨rfl⟩⟩
  rw [HV.out]
  obtain ⟨z, Hz⟩ : ∃ z, Hid (w.heap.size = z) := ⟨_, ⟨rfl⟩⟩
  have HO := Hid.mk hO
  have HBz := Hid.mk hB
  have HBq := Hid.mk hBq
  have HX := Hid.mk htb
  have Hne := Hid.mk hne
  have Hby := Hid.mk hby
  have Hl := Hid.mk hl
  have Hqz : Hid (q < z) := ⟨by rw [← Hz.out]; exact hT.lt⟩
  have t45 := num45 hT hO hby
  have hn0 := nS_num (st := st) hby
  have hin2 := nS_in hby hin
  unfold lS at HV
  obtain ⟨⟨n, sa⟩, Hn⟩ : ∃ r, Hid (nS bs st = r) := ⟨_, ⟨rfl⟩⟩
  rw [Hn.out] at t45 hn0 hin2 HV
  simp only at t45 hn0 hin2 HV
  obtain ⟨m, rfl⟩ := Int.eq_ofNat_of_zero_le hn0.1
  have Hia := Hid.mk hin2
  have hm9 : m ≤ 9007199254740991 := by omega
  simp only [Int.toNat_natCast] at HV
  clear hT hO hB hBq htb hne hby hl hin hin2 hn0
  by_cases hbig : (256 : Int) < (m : Int)
  · rw [if_pos hbig] at HV
    have Hff := Hid.mk (flS_fault sa 6 (by decide))
    have HIs : Hid (InS bs (flS sa 6)) := ⟨flS_in Hia.out 6⟩
    have t32 : ∀ W : World, Tk W q v sa → Calls Try.prog 32 #[.pointer (some ⟨q, 0, none⟩), .int .i64 6] W fun r w' => r = .returned (.tuple #[]) ∧ Tk w' q v (flS sa 6) ∧ Chg [q] W w' := fun W h => fail32 h 6
    obtain ⟨sf, Hsf⟩ : ∃ r, Hid (flS sa 6 = r) := ⟨_, ⟨rfl⟩⟩
    rw [Hsf.out] at HV Hff HIs t32
    have HRe := Hid.mk (rep_stop (pS bs) m sf Hff.out)
    rw [HRe.out] at HV
    obtain ⟨i1, f1⟩ := sf
    have hf' : (f1 == 0) = false := by simpa using Hff.out
    have hpos : (0 : Int) < (m : Int) := by omega
    go_enter Try.func49, Try.ntmps49
    go_wp2_with fail
    refine t45.mono ?_
    rintro e w2 ⟨rfl, hT2, hC2⟩
    clear t45
    have HC2 := Hid.mk hC2
    go_wp2_with fail
    refine (t32 w2 hT2).mono ?_
    rintro e w3 ⟨rfl, hT3, hC3⟩
    have HT3 := Hid.mk hT3
    have HC3 : Hid (Chg [q] w w3) := ⟨HC2.out.trans hC3⟩
    have c2 := HT3.out.c2
    simp only at c2
    clear t32 hT2 hC2 hT3 hC3
    go_wp2_with fail
    go_loop [8] (fun s8 => s8 = .slice none 0 0) (fun _ => 0)
    case atStart => rfl
    case round =>
      obtain rfl := hrel
      go_wp2_with fail
      go_ret
      rw [← HV.out]
      exact ⟨none, 0, rfl, OwnE.nil _ _ _ _ _, HT3.out, HC3.out⟩
  · rw [if_neg hbig] at HV
    have HNm : Hid (m ≤ 256) := ⟨by omega⟩
    have HIs := Hia
    go_enter Try.func49, Try.ntmps49
    go_wp2_with fail
    refine t45.mono ?_
    rintro e w2 ⟨rfl, hT2, hC2⟩
    clear t45
    have HTs := Hid.mk hT2
    have HCs := Hid.mk hC2
    clear hT2 hC2
    go_wp2_with fail
    go_loopg [8] m (fun gg s8 wr => ∃ (L : List Pt) (s1 : St), L.length ≤ m ∧ m - L.length ≤ gg ∧ (∃ a c, s8 = .slice a L.length c) ∧ Hid (OwnE pe 33 49 wr z s8 L) ∧ Hid (Tk wr q v s1) ∧ Hid (Chg [q] w wr) ∧ Hid (rep (pS bs) m sa = (L ++ (rep (pS bs) (m - L.length) s1).1, (rep (pS bs) (m - L.length) s1).2)) ∧ Hid (InS bs s1))
    case atStart => exact ⟨[], sa, Nat.zero_le _, by simp, ⟨none, 0, rfl⟩, ⟨OwnE.nil _ _ _ _ _⟩, HTs, HCs, ⟨by simp⟩, HIs⟩
    case round =>
      obtain ⟨L, s1, hL, hgg, ⟨a8, c8, rfl⟩, HOl, HT, HC, HRp, HI⟩ := hrel
      rename World => wo
      obtain ⟨k, Hk⟩ : ∃ k, Hid (L.length = k) := ⟨_, ⟨rfl⟩⟩
      rw [Hk.out] at hL hgg HOl HRp
      rw [Hk.out]
      have c2 := HT.out.c2
      obtain ⟨i1, f1⟩ := s1
      simp only at c2
      by_cases hlt : k < m
      · have hltz : (k : Int) < (m : Int) := by omega
        by_cases hf : f1 = 0
        · subst hf
          have HRs := Hid.mk (rep_ok (pS bs) (m - (k + 1)) (i1, 0) rfl)
          have HNk : Hid (m - k = m - (k + 1) + 1) := ⟨by omega⟩
          rw [HNk.out, HRs.out] at HRp
          have HOb : Hid (Old B wo v bs) := ⟨HO.out.on (HC.out.below HBz.out (by simpa using HBq.out))⟩
          have Htb : Hid (wo.heap[tb]? = some (.cells #[.pointer (some ⟨q, 0, none⟩)] 76 (0, 0))) := ⟨(HC.out.block tb (Array.getElem?_eq_some_iff.1 HX.out).1 (by simpa using Hne.out)).trans HX.out⟩
          have t48 := part50 (w := wo) HT.out HOb.out (Nat.le_trans HBz.out HC.out.size) HBq.out Htb.out Hne.out Hby.out Hl.out HI.out
          have HIn : Hid (InS bs (pS bs (i1, 0)).2) := ⟨pS_in Hby.out HI.out⟩
          have HLn : Hid ((pS bs (i1, 0)).1.1.length = 32) := ⟨sS_len bs (i1, 0) HI.out⟩
          obtain ⟨⟨E, s2⟩, HE⟩ : ∃ r, Hid (pS bs (i1, 0) = r) := ⟨_, ⟨rfl⟩⟩
          rw [HE.out] at t48 HRp HIn HLn
          simp only at t48 HRp HIn HLn
          obtain ⟨C, HCe⟩ : ∃ r, Hid ((pe E).toArray = r) := ⟨_, ⟨rfl⟩⟩
          rw [HCe.out] at t48
          have HCsz : Hid (C.size = 33) := ⟨by rw [← HCe.out]; simp [pe, HLn.out]⟩
          have HE1 : Hid (∀ u ∈ pe E, u.oneCell' = true) := ⟨by intro u hu; unfold pe at hu; simp only [List.mem_append, List.mem_map, List.mem_singleton] at hu; rcases hu with ⟨y, _, rfl⟩ | rfl <;> rfl⟩
          go_wp2_with fail
          refine t48.mono ?_
          rintro e w2 ⟨rfl, hT2, hC2⟩
          have HT2 := Hid.mk hT2
          have HC2 := Hid.mk hC2
          obtain ⟨z2, Hz2⟩ : ∃ z, Hid (w2.heap.size = z) := ⟨_, ⟨rfl⟩⟩
          obtain ⟨w3, Hw3⟩ : ∃ x, Hid (w2.alloc (.cells C 49) = x) := ⟨_, ⟨rfl⟩⟩
          have HB3 : Hid (Below w2.heap.size w2 w3) := ⟨by rw [← Hw3.out]; exact (Below.refl _ w2).alloc (Nat.le_refl _) _⟩
          have HR3 : Hid (RdE pe 33 p0 w3 (.slice (some ⟨z2, 0, none⟩) 1 1) [E]) := ⟨by rw [← Hw3.out, ← Hz2.out, ← HCe.out]; exact rde_one w2 E (by have := HCsz.out; rw [← HCe.out, List.size_toArray] at this; exact this) HE1.out 49⟩
          have Hob : Hid (∀ g ∈ ob (Value.slice a8 k c8), z ≤ g ∧ g < wo.heap.size ∧ g ≠ q) := ⟨fun g hg => by
            have h1 := HOl.out.lt g hg
            have h2 := Hqz.out
            exact ⟨h1.1, h1.2, by omega⟩⟩
          have HO3 : Hid (OwnE pe 33 49 w3 z (.slice a8 k c8) L) := ⟨(HOl.out.far HC2.out (fun g hg hm => by simp at hm; exact (Hob.out g hg).2.2 hm)).far (Chg.ofBelow (X := []) HB3.out) (by simp)⟩
          have HT3 : Hid (Tk w3 q v s2) := ⟨HT2.out.far (Chg.ofBelow (X := []) HB3.out) (by simp)⟩
          have HC3 : Hid (Chg [q] w w3) := ⟨(HC.out.trans HC2.out).trans (Chg.ofBelow HB3.out)⟩
          clear hT2 hC2 t48 c2
          go_wp2_with (first
            | (refine wp_sliceE eltPt rfl (.tmp 29) rfl C rfl HCsz.out (by decide) ?_; rw [Hz2.out, Hw3.out])
            | (at_builtin; refine wp_appE (f := pe) (d := p0) (L := L) (M := [E]) eltPt rfl (.tmp 27) (.tmp 30) rfl rfl HO3.out rfl HR3.out (by have := Hk.out; have := HNm.out; simp only [List.length_cons, List.length_nil]; omega) (by have := Hk.out; have := HNm.out; unfold maxLen; simp only [List.length_cons, List.length_nil]; omega) (by rw [← Hz.out]; exact HC3.out.size) ?_; intro v4 w4 hO4 hG4 hV4))
          have HO4 := Hid.mk hO4
          have HT4 : Hid (Tk w4 q v s2) := ⟨HT3.out.far hG4 (fun hm => (Hob.out q hm).2.2 rfl)⟩
          have HC4 : Hid (Chg [q] w w4) := ⟨HC3.out.thenNew hG4 (fun x hx => .inr (by rw [Hz.out]; exact (Hob.out x hx).1))⟩
          obtain ⟨a4, c4, e4, _⟩ := (HO4.out.rd p0).shape
          subst e4
          have Hk4 : Hid ((L ++ [E]).length = k + 1) := ⟨by rw [List.length_append, Hk.out]; rfl⟩
          have HRp4 : Hid (rep (pS bs) m sa = ((L ++ [E]) ++ (rep (pS bs) (m - (L ++ [E]).length) s2).1, (rep (pS bs) (m - (L ++ [E]).length) s2).2)) := ⟨by rw [Hk4.out, HRp.out, List.append_assoc]; rfl⟩
          clear hO4 hG4 hV4
          go_roundg (m - (k + 1))
          case measure => omega
          case rel => exact ⟨L ++ [E], s2, by rw [Hk4.out]; omega, by rw [Hk4.out]; exact Nat.le_refl _, ⟨_, _, rfl⟩, HO4, HT4, HC4, HRp4, HIn⟩
        · have hf' : (f1 == 0) = false := by simpa using hf
          have HRe : Hid (rep (pS bs) m sa = (L, (i1, f1))) := ⟨by rw [HRp.out, rep_stop _ _ _ hf, List.append_nil]⟩
          rw [HRe.out] at HV
          go_wp2_with fail
          go_ret
          rw [← HV.out]
          exact ⟨a8, c8, by rw [Hk.out]; rfl, by rw [Hk.out, Hz.out]; exact HOl.out, HT.out, HC.out⟩
      · obtain rfl : k = m := by omega
        have hltz : ¬ (k : Int) < (k : Int) := by omega
        have HRe : Hid (rep (pS bs) k sa = (L, (i1, f1))) := ⟨by rw [HRp.out, Nat.sub_self]; simp [rep]⟩
        rw [HRe.out] at HV
        go_wp2_with fail
        go_ret
        rw [← HV.out]
        exact ⟨a8, c8, by rw [Hk.out]; rfl, by rw [Hk.out, Hz.out]; exact HOl.out, HT.out, HC.out⟩
end
end Go.Proofs.Ythohpbppfihoiaa
