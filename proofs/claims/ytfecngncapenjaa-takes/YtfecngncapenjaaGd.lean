/- Texts joined into one: B6, B7, B8. -/
import Derived.Test.YtfecngncapenjaaB5
import Derived.Test.YtfecngncapenjaaGc
import Derived.Deep.MidRow
/- A word is taken. -/
namespace Go.Proofs.Ytfecngncapenjaa
open Go.RowKit Oct Go.Lib

/-- What the next word says, where it ends, or what is wrong; s: the bits of it that have been read. -/
inductive Rw (W : Nat → List Nat) (b : List Int) : List Nat → Nat → Nat × Nat × Int → Prop
  | short (s : List Nat) (a : Nat) : 8 * b.length ≤ a → Rw W b s a (0, a, 3)
  | form (s : List Nat) (a : Nat) : a < 8 * b.length → (∀ i, i < 256 → ¬ s ++ [bitAt b a] <+: W i) → Rw W b s a (0, a + 1, 4)
  | hit (s : List Nat) (a i : Nat) : a < 8 * b.length → i < 256 → W i = s ++ [bitAt b a] → Rw W b s a (i, a + 1, 0)
  | more (s : List Nat) (a : Nat) (r : Nat × Nat × Int) : a < 8 * b.length → (∃ i, i < 256 ∧ s ++ [bitAt b a] <+: W i) → (∀ i, i < 256 → W i ≠ s ++ [bitAt b a]) → Rw W b (s ++ [bitAt b a]) (a + 1) r → Rw W b s a r
theorem Rw.det {W : Nat → List Nat} {b : List Int} (hd : ∀ i k, i < 256 → k < 256 → i ≠ k → W i ≠ [] → ¬ W i <+: W k) {s : List Nat} {a : Nat} {r : Nat × Nat × Int} (h : Rw W b s a r) : ∀ {r' : Nat × Nat × Int}, Rw W b s a r' → r = r' := by
  induction h with
  | short s a h1 =>
    intro r' h'
    cases h' with
    | short _ _ _ => rfl
    | form _ _ h2 _ => omega
    | hit _ _ i h2 _ _ => omega
    | more _ _ _ h2 _ _ _ => omega
  | form s a h1 h2 =>
    intro r' h'
    cases h' with
    | short _ _ h3 => omega
    | form _ _ _ _ => rfl
    | hit _ _ i _ h3 h4 => exact absurd (by rw [h4]; exact List.prefix_refl _) (h2 i h3)
    | more _ _ _ _ h3 _ _ => obtain ⟨i, h4, h5⟩ := h3; exact absurd h5 (h2 i h4)
  | hit s a i h1 h2 h3 =>
    intro r' h'
    cases h' with
    | short _ _ h4 => omega
    | form _ _ _ h4 => exact absurd (by rw [h3]; exact List.prefix_refl _) (h4 i h2)
    | hit _ _ k _ h4 h5 =>
      by_cases e : i = k
      · rw [e]
      · exact absurd (by rw [h3, h5]; exact List.prefix_refl _) (hd i k h2 h4 e (by rw [h3]; simp))
    | more _ _ _ _ _ h4 _ => exact absurd h3 (h4 i h2)
  | more s a r h1 h2 h3 _ ih =>
    intro r' h'
    cases h' with
    | short _ _ h4 => omega
    | form _ _ _ h4 => obtain ⟨i, h5, h6⟩ := h2; exact absurd h6 (h4 i h5)
    | hit _ _ k _ h4 h5 => exact absurd h5 (h3 k h4)
    | more _ _ _ _ _ _ h4 => exact ih h4
theorem Rw.fst {W : Nat → List Nat} {b : List Int} {s : List Nat} {a : Nat} {r : Nat × Nat × Int} (h : Rw W b s a r) : r.1 < 256 := by
  induction h with
  | short _ _ _ => exact Nat.zero_lt_succ _
  | form _ _ _ _ => exact Nat.zero_lt_succ _
  | hit _ _ i _ h _ => exact h
  | more _ _ _ _ _ _ _ ih => exact ih
section
variable {w : World}
set_option maxHeartbeats 16000000 in
set_option maxRecDepth 100000 in
theorem take48 (W : Nat → List Nat) (base : Nat) (v : Value) (L : List Br) (P : List (List Nat)) (hO : OwnE be 4 99 w base v L) (hT : Tw W 256 L P) (_hL : L.length ≤ 20000) (r : Nat) (vb : Value) (b : List Int) (a0 : Nat) (hR : RdB w r vb b a0) (hb : By b) (hlm : b.length ≤ 1000000) :
    Calls Try.prog 48 #[v, .pointer (some ⟨r, 0, none⟩)] w fun e w' => ∃ (i : Nat) (a' : Nat) (z : Int), e = .returned (.tuple #[.int .u8 (i : Int), .int .i64 z]) ∧ Rw W b [] a0 (i, a', z) ∧ Chg [r] w w' ∧ (z = 0 → RdB w' r vb b a') := by
  have HO := Hid.mk hO
  have HT := Hid.mk hT
  have HRd := Hid.mk hR
  have HBy := Hid.mk hb
  have Hlm := Hid.mk hlm
  have Hro : Hid (∀ y ∈ ob v, y ∉ [r]) := ⟨fun y hy hm => by
    simp at hm
    subst hm
    exact Ty.ne (e := 99) (f := 84) (hO.ty y hy) ⟨_, hR.1⟩ (by decide) rfl⟩
  obtain ⟨g, c, e, hLc, hcm⟩ := own_partsB hO hT.tr.pos
  subst e
  obtain ⟨n, Hn⟩ : ∃ x, Hid (L.length = x) := ⟨_, ⟨rfl⟩⟩
  have hn0 : 0 < n := by rw [← Hn.out]; exact hT.tr.pos
  rw [Hn.out] at HO hLc Hro ⊢
  have hcx : c ≤ 9223372036854775807 := hcm
  have Hroot : Hid ((L.getD 0 br0).2.2.1 = true → ∀ k : Nat, (L.getD 0 br0).2.2.2 = k → Rw W b [] a0 (k, a0, 0)) := ⟨fun h => by
    obtain ⟨k, _, h1, h2⟩ := (hT.word 0 hT.tr.pos).1 h
    rw [hT.tr.root] at h2
    exact absurd h2 h1⟩
  clear hO hT hR hb hlm
  go_enter Try.func48, Try.ntmps48
  go_upto_region 2 with fail
  go_loopg [6, 7, 8] (8 * b.length + 1) (fun gg s6 _s7 _s8 wr => ∃ (at' a : Nat), at' < n ∧ 8 * b.length - a < gg ∧ s6 = .int .i64 (at' : Int) ∧ Hid (RdB wr r vb b a) ∧ Hid (Chg [r] w wr) ∧ Hid ((L.getD at' br0).2.2.1 = true → ∀ k : Nat, (L.getD at' br0).2.2.2 = k → Rw W b [] a0 (k, a, 0)) ∧ Hid ((L.getD at' br0).2.2.1 = false → ∀ res, Rw W b (P.getD at' []) a res → Rw W b [] a0 res))
  case atStart => exact ⟨0, a0, hn0, by omega, rfl, HRd, ⟨Chg.refl _ _⟩, Hroot, ⟨fun _ res h => by rw [HT.out.tr.root] at h; exact h⟩⟩
  case round =>
    clear HRd Hroot
    obtain ⟨at', a, hat, hgg, rfl, HR, HC, HY, HN⟩ := hrel
    rename World => wo
    have hatz : (at' : Int) < (n : Int) := by omega
    have HOo : Hid (OwnE be 4 99 wo base (.slice (some ⟨g, 0, none⟩) n c) L) := ⟨HO.out.far HC.out Hro.out⟩
    have hatL : at' < L.length := by rw [Hn.out]; exact hat
    obtain ⟨Y, HYy⟩ : ∃ x, Hid (L.getD at' br0 = x) := ⟨_, ⟨rfl⟩⟩
    obtain ⟨f, Hf⟩ : ∃ x, Hid (Y.2.2.1 = x) := ⟨_, ⟨rfl⟩⟩
    rw [HYy.out, Hf.out] at HY HN
    have d1 : wo.cell? ⟨g, at' * 4 + 2, none⟩ = some (.bool f) := by
      rw [own_cellE HOo.out br0 hatL (by decide), HYy.out, ← Hf.out]; rfl
    cases f with
    | true =>
      obtain ⟨k, Hk⟩ : ∃ x, Hid (Y.2.2.2 = x) := ⟨_, ⟨rfl⟩⟩
      have d2 : wo.cell? ⟨g, at' * 4 + 3, none⟩ = some (.int .u8 (k : Nat)) := by
        rw [own_cellE HOo.out br0 hatL (by decide), HYy.out, ← Hk.out]; rfl
      have HFin : Hid (Rw W b [] a0 (k, a, 0)) := ⟨HY.out rfl k Hk.out⟩
      go_wp2_with fail
      go_ret2
      exact ⟨k, a, 0, rfl, HFin.out, HC.out, fun _ => HR.out⟩
    | false =>
      have HNf : Hid (∀ res, Rw W b (P.getD at' []) a res → Rw W b [] a0 res) := ⟨HN.out rfl⟩
      clear HN HY
      have t1 := next55 (w := wo) r vb b a HR.out HBy.out Hlm.out
      by_cases hal : a < 8 * b.length
      · rw [if_pos hal, if_pos hal] at t1
        obtain ⟨cb, Hcb⟩ : ∃ x, Hid (bitAt b a = x) := ⟨_, ⟨rfl⟩⟩
        have hc2 : cb < 2 := by rw [← Hcb.out]; unfold bitAt; omega
        have hc2z : (cb : Int) < 2 := by omega
        rw [Hcb.out] at t1
        obtain ⟨t, Ht⟩ : ∃ x, Hid (tob Y cb = x) := ⟨_, ⟨rfl⟩⟩
        have Hkid := Hid.mk (HT.out.tr.kids at' hatL cb hc2)
        rw [HYy.out, Ht.out] at Hkid
        go_wp2_with fail
        refine t1.mono ?_
        rintro e w5 ⟨rfl, hC5, hR5⟩
        have HR5 := Hid.mk hR5
        have HC5 : Hid (Chg [r] w w5) := ⟨HC.out.trans hC5⟩
        have HO5 : Hid (OwnE be 4 99 w5 base (.slice (some ⟨g, 0, none⟩) n c) L) := ⟨HO.out.far HC5.out Hro.out⟩
        have d2 : w5.cell? ⟨g, at' * 4 + cb, none⟩ = some (.int .i64 (t : Nat)) := by
          rw [own_cellE HO5.out br0 hatL (by omega), HYy.out, be_to _ hc2, Ht.out]
        clear t1 hC5 hR5 d1
        by_cases ht : t = 0
        · subst ht
          have HFin : Hid (Rw W b [] a0 (0, a + 1, 4)) := ⟨HNf.out _ (.form _ _ hal (fun i hi hp => by
            rcases Hkid.out with ⟨_, h2⟩ | ⟨h2, _⟩
            · rw [Hcb.out] at hp
              refine h2 (HT.out.all i hi (fun e => ?_) _ hp)
              rw [e] at hp
              have := hp.length_le
              simp at this
            · omega))⟩
          go_wp2_with fail
          go_ret2
          exact ⟨0, a + 1, 4, rfl, HFin.out, HC5.out, fun h => by omega⟩
        · have htb : ((t : Int) == 0) = false := by simp; omega
          obtain ⟨htn, htp⟩ : t < n ∧ P.getD t [] = P.getD at' [] ++ [cb] := by
            rcases Hkid.out with ⟨h2, _⟩ | ⟨_, h3, h4⟩
            · exact absurd h2 ht
            · exact ⟨by rw [← Hn.out]; exact h3, h4⟩
          have htL : t < L.length := by rw [Hn.out]; exact htn
          have HYn : Hid ((L.getD t br0).2.2.1 = true → ∀ k : Nat, (L.getD t br0).2.2.2 = k → Rw W b [] a0 (k, a + 1, 0)) := ⟨fun h k hk => by
            obtain ⟨j, h1, h2, h3⟩ := (HT.out.word t htL).1 h
            have h4 := HT.out.says t j htL h1 h2 h3
            rw [hk] at h4
            subst h4
            exact HNf.out _ (.hit _ _ _ hal h1 (by rw [h3, htp, Hcb.out]))⟩
          have HNn : Hid ((L.getD t br0).2.2.1 = false → ∀ res, Rw W b (P.getD t []) (a + 1) res → Rw W b [] a0 res) := ⟨fun h res hr => by
            refine HNf.out _ (.more _ _ _ hal ?_ ?_ (by rw [Hcb.out, ← htp]; exact hr))
            · rcases HT.out.only (P.getD t []) (mem_at (by rw [HT.out.tr.len]; exact htL)) with h1 | ⟨k, h1, _, h3⟩
              · rw [htp] at h1; simp at h1
              · exact ⟨k, h1, by rw [Hcb.out, ← htp]; exact h3⟩
            · intro i hi e
              rw [Hcb.out, ← htp] at e
              have := (HT.out.word t htL).2 ⟨i, hi, (by rw [e, htp]; simp), e⟩
              rw [h] at this
              cases this⟩
          have hgn : 8 * b.length - (a + 1) < 8 * b.length - a := by omega
          obtain ⟨bl, Hbl⟩ : ∃ x, Hid (8 * b.length = x) := ⟨_, ⟨rfl⟩⟩
          rw [Hbl.out] at hgn hgg hal
          clear htp
          go_wp2_with fail
          go_roundg (bl - a)
          case measure => omega
          case rel => exact ⟨t, a + 1, htn, by have := Hbl.out; omega, rfl, HR5, HC5, HYn, HNn⟩
      · rw [if_neg hal, if_neg hal] at t1
        have HFin : Hid (Rw W b [] a0 (0, a, 3)) := ⟨HNf.out _ (.short _ _ (by omega))⟩
        go_wp2_with fail
        refine t1.mono ?_
        rintro e w5 ⟨rfl, hC5, hR5⟩
        have HC5 : Hid (Chg [r] w w5) := ⟨HC.out.trans hC5⟩
        clear t1 hC5 hR5 d1
        go_wp2_with fail
        go_ret2
        exact ⟨0, a, 3, rfl, HFin.out, HC5.out, fun h => by omega⟩
end
end Go.Proofs.Ytfecngncapenjaa

/- So many words are taken: takeWords. -/
namespace Go.Proofs.Ytfecngncapenjaa
open Go.RowKit Oct Go.Lib

/-- What so many words say from a place on, behind what was said; or what is wrong. -/
inductive Rs (W : Nat → List Nat) (b : List Int) : Nat → Nat → List Int → List Int × Int → Prop
  | done (a : Nat) (acc : List Int) : Rs W b 0 a acc (if isD b a then (acc, 0) else ([], 4))
  | stop (n a : Nat) (acc : List Int) (i a' : Nat) (z : Int) : Rw W b [] a (i, a', z) → z ≠ 0 → Rs W b (n + 1) a acc ([], z)
  | step (n a : Nat) (acc : List Int) (i a' : Nat) (r : List Int × Int) : Rw W b [] a (i, a', 0) → Rs W b n a' (acc ++ [(i : Int)]) r → Rs W b (n + 1) a acc r
theorem Rs.det {W : Nat → List Nat} {b : List Int} (hd : ∀ i k, i < 256 → k < 256 → i ≠ k → W i ≠ [] → ¬ W i <+: W k) {n a : Nat} {acc : List Int} {r : List Int × Int} (h : Rs W b n a acc r) : ∀ {r' : List Int × Int}, Rs W b n a acc r' → r = r' := by
  induction h with
  | done a acc =>
    intro r' h'
    cases h' with
    | done _ _ => rfl
  | stop n a acc i a' z h1 h2 =>
    intro r' h'
    cases h' with
    | stop _ _ _ i2 a2 z2 h3 _ =>
      have e := h1.det hd h3
      simp only [Prod.mk.injEq] at e
      rw [e.2.2]
    | step _ _ _ i2 a2 _ h3 _ =>
      have e := h1.det hd h3
      simp only [Prod.mk.injEq] at e
      exact absurd e.2.2 h2
  | step n a acc i a' r h1 _ ih =>
    intro r' h'
    cases h' with
    | stop _ _ _ i2 a2 z2 h3 h4 =>
      have e := h1.det hd h3
      simp only [Prod.mk.injEq] at e
      exact absurd e.2.2.symm h4
    | step _ _ _ i2 a2 _ h3 h4 =>
      have e := h1.det hd h3
      simp only [Prod.mk.injEq] at e
      obtain ⟨rfl, rfl, _⟩ := e
      exact ih h4
section
variable {w : World}
set_option maxHeartbeats 16000000 in
set_option maxRecDepth 100000 in
theorem words37 (f : List Int) (hf : f.length = 256) (hr0 : hr f = true) (vb : Value) (b : List Int) (size : Nat) (hv : RdY w vb b) (hb : By b) (hlm : b.length ≤ 1000000) (hs : size ≤ 8192) (hvo : ∀ y ∈ ob vb, y < w.heap.size) :
    Calls Try.prog 37 #[vb, .int .i64 (size : Int), .agg (sa (ws f))] w fun e w' => ∃ v out z, e = .returned (.tuple #[v, .int .i64 z]) ∧ Rs (wbt f) b size 0 [] (out, z) ∧ OwnY w' w.heap.size v out ∧ Below w.heap.size w w' := by
  have HR := Hid.mk hr0
  have HF := Hid.mk hf
  have HBy := Hid.mk hb
  have Hlm := Hid.mk hlm
  have HV := Hid.mk hv
  have HVl := Hid.mk hvo
  obtain ⟨q, Hq⟩ : ∃ q, Hid (w.heap.size = q) := ⟨_, ⟨rfl⟩⟩
  obtain ⟨A, HA⟩ : ∃ A, Hid (sa (ws f) = A) := ⟨_, ⟨rfl⟩⟩
  have HI : Hid ((Try.prog.info? 28).map (·.size) = some A.size) := ⟨by rw [← HA.out]; exact info28f (wls_len f 61 0)⟩
  obtain ⟨w1, Hw1⟩ : ∃ x, Hid (w.alloc (.cells A 28) = x) := ⟨_, ⟨rfl⟩⟩
  have HB1 : Hid (Below q w w1) := ⟨by rw [← Hw1.out, ← Hq.out]; exact (Below.refl _ w).alloc (Nat.le_refl _) _⟩
  have HX1 : Hid (w1.heap[q]? = some (.cells A 28 (0, 0))) := ⟨by rw [← Hw1.out, ← Hq.out]; exact heap_alloc_new w _⟩
  have HS1 : Hid (w1.heap.size = q + 1) := ⟨by rw [← Hw1.out, ← Hq.out]; exact Array.size_push _⟩
  obtain ⟨w2, Hw2⟩ : ∃ x, Hid (w1.alloc (.cells #[vb, .int .i64 0] 84) = x) := ⟨_, ⟨rfl⟩⟩
  have HB12 : Hid (Below w1.heap.size w1 w2) := ⟨by rw [← Hw2.out]; exact (Below.refl _ w1).alloc (Nat.le_refl _) _⟩
  have HB2 : Hid (Below q w w2) := ⟨HB1.out.trans (HB12.out.mono (by rw [HS1.out]; omega))⟩
  have HX2 := Hid.mk (below_at HB12.out HX1.out)
  have HS2 : Hid (w2.heap.size = q + 2) := ⟨by rw [← Hw2.out]; have : (w1.alloc (.cells #[vb, .int .i64 0] 84)).heap.size = w1.heap.size + 1 := Array.size_push _; rw [this, HS1.out]⟩
  have HR2 : Hid (RdB w2 (q + 1) vb b 0) := ⟨by
    refine ⟨by rw [← Hw2.out, ← HS1.out]; exact heap_alloc_new w1 _, Rd.far hv (Chg.ofBelow (X := []) (by rw [Hq.out]; exact HB2.out)) (by simp), fun hm => ?_, Nat.zero_le _⟩
    have := hvo _ hm
    have := Hq.out
    omega⟩
  obtain ⟨va, vc, e, hvc, hvm, _⟩ := hv.shape
  subst e
  obtain ⟨vn, Hvn⟩ : ∃ x, Hid (b.length = x) := ⟨_, ⟨rfl⟩⟩
  rw [Hvn.out] at HV HR2 Hw2 HVl ⊢
  rw [Hq.out] at HVl
  rw [HA.out]
  clear hf hr0 hv hb hlm hvo
  go_enter Try.func37, Try.ntmps37
  go_upto_region 2 with (refine wp_box rfl 28 (.tmp 2) rfl A rfl ?_; rw [Hw1.out])
  rw [Hw2.out, HS1.out, Hq.out]
  have t1 := branches47 (w := w2) f HF.out HR.out
  rw [HA.out] at t1
  go_wp2_with (refine wp_load rfl 28 (.tmp 5) rfl q rfl A 28 (0, 0) _ HX2.out Try.underlying28 rfl HI.out ?_)
  refine t1.mono ?_
  rintro e w3 ⟨v9, L, P, rfl, hO3, hT3, hL3, hB3⟩
  have HO3 := Hid.mk hO3
  have HT3 := Hid.mk hT3
  have HL3 := Hid.mk hL3
  have HB3 : Hid (Below q w w3) := ⟨HB2.out.trans (hB3.mono (by rw [HS2.out]; omega))⟩
  have HR3 : Hid (RdB w3 (q + 1) (.slice va vn vc) b 0) := ⟨⟨(hB3.block (q + 1) (by rw [HS2.out]; omega)).trans HR2.out.1, Rd.far HR2.out.2.1 (Chg.ofBelow (X := []) hB3) (by simp), HR2.out.2.2.1, HR2.out.2.2.2⟩⟩
  have HS3 : Hid (q + 2 ≤ w3.heap.size) := ⟨by have := hB3.size; rw [HS2.out] at this; exact this⟩
  obtain ⟨g9, c9, e9, _, _⟩ := own_partsB hO3 hT3.tr.pos
  subst e9
  obtain ⟨n9, Hn9⟩ : ∃ x, Hid (L.length = x) := ⟨_, ⟨rfl⟩⟩
  rw [Hn9.out] at HO3 ⊢
  clear t1 hO3 hT3 hL3 hB3
  go_upto_region 5 with fail
  go_loopg [10, 11, 12, 18] size (fun gg s10 _s11 _s12 s18 wr => ∃ (k a : Nat) (v : Value) (out : List Int), k ≤ size ∧ size - k ≤ gg ∧ s18 = .int .i64 (k : Int) ∧ v = s10 ∧ Hid (out.length = k) ∧ Hid (OwnY wr (q + 2) v out) ∧ Hid (RdB wr (q + 1) (.slice va vn vc) b a) ∧ Hid (OwnE be 4 99 wr w2.heap.size (.slice (some ⟨g9, 0, none⟩) n9 c9) L) ∧ Hid (∀ res, Rs (wbt f) b (size - k) a out res → Rs (wbt f) b size 0 [] res) ∧ Hid (Below q w wr) ∧ Hid (q + 2 ≤ wr.heap.size))
  case atStart => exact ⟨0, 0, _, [], Nat.zero_le _, by omega, rfl, rfl, ⟨rfl⟩, ⟨owny_nil _ _⟩, HR3, HO3, ⟨fun _ h => h⟩, HB3, HS3⟩
  case round =>
    clear HR3 HO3 HB3 HS3
    obtain ⟨k, a, v, out, hk, hgg, rfl, rfl, HLo, HO, HR, HE, HN, HB, HS⟩ := hrel
    rename World => wo
    obtain ⟨oa, oc, e, _⟩ := HO.out.shape
    subst e
    rw [HLo.out] at HO
    rw [HLo.out]
    have hqe : ∀ x ∈ ob (.slice oa k oc), x ≠ q + 1 := fun x hx e => by
      have := (World.ownsRow.lt HO.out x (mem_ob.1 hx)).1
      omega
    have Hqe := Hid.mk hqe
    clear hqe
    by_cases hlt : k < size
    · have hltz : (k : Int) < (size : Int) := by omega
      have t2 := take48 (w := wo) (wbt f) w2.heap.size (.slice (some ⟨g9, 0, none⟩) n9 c9) L P HE.out HT3.out HL3.out (q + 1) (.slice va vn vc) b a HR.out HBy.out Hlm.out
      go_wp2_with fail
      refine t2.mono ?_
      rintro e w5 ⟨i, a', z, rfl, hW, hC, hR⟩
      have HW := Hid.mk hW
      have HC := Hid.mk hC
      have HRn := Hid.mk hR
      have hi256 : i < 256 := hW.fst
      have HB5 : Hid (Below q w w5) := ⟨HB.out.trans (hC.below (by have := HS.out; omega) (fun y hy => by simp at hy; omega))⟩
      clear t2 hW hC hR
      by_cases hz : z = 0
      · subst hz
        have HR5 : Hid (RdB w5 (q + 1) (.slice va vn vc) b a') := ⟨HRn.out rfl⟩
        have HO5 : Hid (OwnY w5 (q + 2) (.slice oa k oc) out) := ⟨own_far HO.out HC.out (fun y hy hm => Hqe.out y (mem_ob.2 hy) (by simpa using hm))⟩
        have HE5 : Hid (OwnE be 4 99 w5 w2.heap.size (.slice (some ⟨g9, 0, none⟩) n9 c9) L) := ⟨HE.out.far HC.out (fun y hy hm => by
          have := (HE.out.lt y hy).1
          rw [HS2.out] at this
          simp at hm
          omega)⟩
        have HS5 : Hid (q + 2 ≤ w5.heap.size) := ⟨Nat.le_trans HS.out HC.out.size⟩
        clear HRn
        go_wp2_with (at_builtin; refine wp_appY1 (y := (i : Int)) (xs := out) rfl (.tmp 28) (.tmp 30) rfl rfl HO5.out rfl (by have := HLo.out; omega) HS5.out ?_; intro v6 w6 hO6 hG6 hV6)
        have HB6 : Hid (Below (q + 2) w5 w6) := ⟨hG6.below HS5.out (fun y hy => (World.ownsRow.lt HO5.out y (mem_ob.1 hy)).1)⟩
        have HO6 : Hid (OwnY w6 (q + 2) v6 (out ++ [(i : Int)])) := ⟨hO6⟩
        have HR6 : Hid (RdB w6 (q + 1) (.slice va vn vc) b a') := ⟨by
          refine ⟨(HB6.out.block (q + 1) (by omega)).trans HR5.out.1, Rd.far HR5.out.2.1 hG6 (fun h0 y hy hm => ?_), HR5.out.2.2⟩
          have h1 := (World.ownsRow.lt HO5.out y (mem_ob.1 hm)).1
          have h2 := HVl.out y (mem_ob.2 hy)
          omega⟩
        have HE6 : Hid (OwnE be 4 99 w6 w2.heap.size (.slice (some ⟨g9, 0, none⟩) n9 c9) L) := ⟨HE5.out.far hG6 (fun y hy hm => Ty.ne (e := 99) (f := 5) (HE5.out.ty y hy) (own_ty HO5.out (mem_ob.1 hm)) (by decide) rfl)⟩
        clear hO6 hG6 hV6
        go_roundg (size - (k + 1))
        case measure => omega
        case rel =>
          refine ⟨k + 1, a', v6, out ++ [(i : Int)], by omega, by omega, by go_num, rfl, ⟨by rw [List.length_append, HLo.out]; rfl⟩, HO6, HR6, HE6, ⟨fun res h => HN.out res ?_⟩, ⟨HB5.out.trans (HB6.out.mono (by omega))⟩, ⟨Nat.le_trans HS5.out HB6.out.size⟩⟩
          rw [show size - k = (size - (k + 1)) + 1 by omega]
          exact .step _ _ _ i a' _ HW.out h
      · have hzb : (z != 0) = true := by simpa using hz
        have HFin : Hid (Rs (wbt f) b size 0 [] ([], z)) := ⟨HN.out _ (by
          rw [show size - k = (size - (k + 1)) + 1 by omega]
          exact .stop _ _ _ i a' z HW.out hz)⟩
        clear hz
        go_wp2_with fail
        go_ret2
        exact ⟨_, [], z, rfl, HFin.out, owny_nil _ _, by rw [Hq.out]; exact HB5.out⟩
    · obtain rfl : size = k := by omega
      have hltz : ¬ (size : Int) < (size : Int) := by omega
      have t3 := done49 (w := wo) (q + 1) (.slice va vn vc) b a HR.out HBy.out Hlm.out
      have HFin : Hid (Rs (wbt f) b size 0 [] (if isD b a then (out, 0) else ([], 4))) := ⟨HN.out _ (by rw [Nat.sub_self]; exact .done a out)⟩
      cases hd : isD b a with
      | true =>
        rw [hd] at t3 HFin
        rw [if_pos rfl] at HFin
        clear hd
        go_wp2_with fail
        refine t3.mono ?_
        rintro e w5 ⟨rfl, hC⟩
        have HC := Hid.mk hC
        have HB5 : Hid (Below q w w5) := ⟨HB.out.trans (hC.below (by have := HS.out; omega) (fun y hy => by simp at hy; omega))⟩
        have HO5 : Hid (OwnY w5 (q + 2) (.slice oa size oc) out) := ⟨own_far HO.out HC.out (fun y hy hm => Hqe.out y (mem_ob.2 hy) (by simpa using hm))⟩
        clear t3 hC
        go_wp2_with fail
        go_ret2
        exact ⟨_, out, 0, rfl, HFin.out, own_base HO5.out (fun y hy => by have := (World.ownsRow.lt HO5.out y hy).1; rw [Hq.out]; omega), by rw [Hq.out]; exact HB5.out⟩
      | false =>
        rw [hd] at t3 HFin
        rw [if_neg (by decide)] at HFin
        clear hd
        go_wp2_with fail
        refine t3.mono ?_
        rintro e w5 ⟨rfl, hC⟩
        have HB5 : Hid (Below q w w5) := ⟨HB.out.trans (hC.below (by have := HS.out; omega) (fun y hy => by simp at hy; omega))⟩
        clear t3 hC
        go_wp2_with fail
        go_ret2
        exact ⟨_, [], 4, rfl, HFin.out, owny_nil _ _, by rw [Hq.out]; exact HB5.out⟩
end
end Go.Proofs.Ytfecngncapenjaa

/- Take. -/
namespace Go.Proofs.Ytfecngncapenjaa
open Go.RowKit Oct Go.Lib

/-- What Take tells. -/
def TkS (b : List Int) (most : Int) (r : List Int × Int) : Prop :=
  if (tkSize b most).2.2 ≠ 0 then r = ([], (tkSize b most).2.2)
  else if (tkTable b (tkSize b most).2.1.toNat (tkSize b most).1.toNat).2.2 ≠ 0 then r = ([], (tkTable b (tkSize b most).2.1.toNat (tkSize b most).1.toNat).2.2)
  else if hr (tkTable b (tkSize b most).2.1.toNat (tkSize b most).1.toNat).1 = false then r = ([], 2)
  else Rs (wbt (tkTable b (tkSize b most).2.1.toNat (tkSize b most).1.toNat).1) (b.drop (tkTable b (tkSize b most).2.1.toNat (tkSize b most).1.toNat).2.1.toNat) (tkSize b most).1.toNat 0 [] r
theorem tkRows_at {b : List Int} (hb : By b) : ∀ (c a : Nat) (last : Int) (f : List Int), a ≤ b.length → (tkRows b c a last f).2.2 = 0 → 0 ≤ (tkRows b c a last f).2.1 ∧ (tkRows b c a last f).2.1 ≤ b.length
  | 0, a, _, _, h, _ => by rw [tkRows]; simp only; omega
  | c + 1, a, last, f, h, h0 => by
    rw [tkRows] at h0 ⊢
    by_cases h1 : (tkRow (b.drop a) last).2.2 = 0
    · rw [if_pos h1] at h0 ⊢
      have := tkRow_ok (b := b.drop a) (last := last) (fun x hx => hb x (List.mem_of_mem_drop hx)) h1
      rw [List.length_drop] at this
      exact tkRows_at hb c _ _ _ (by omega) h0
    · rw [if_neg h1] at h0
      exact absurd h0 h1
theorem tkTable_at {b : List Int} (hb : By b) {a size : Nat} (h : (tkTable b a size).2.2 = 0) : 0 ≤ (tkTable b a size).2.1 ∧ (tkTable b a size).2.1 ≤ b.length := by
  unfold tkTable at h ⊢
  by_cases h0 : (tkNum b a).2.2 = 0
  · rw [if_pos h0] at h ⊢
    split at h
    · cases h
    · next h1 =>
      rw [if_neg h1]
      have := tkNum_ok b _ hb h0
      exact tkRows_at hb _ _ _ _ (by omega) h
  · rw [if_neg h0] at h
    exact absurd h h0
theorem tkTable_len (b : List Int) (a size : Nat) : (tkTable b a size).1.length = 256 := by
  unfold tkTable
  split
  · split
    · exact z0_len
    · exact tkRows_len _ _ _ _ _ z0_len
  · exact z0_len
theorem tkSize_ok {b : List Int} {most : Int} (hb : By b) (h : (tkSize b most).2.2 = 0) : 0 ≤ (tkSize b most).1 ∧ (tkSize b most).1 ≤ 8192 ∧ 0 < (tkSize b most).2.1 ∧ (tkSize b most).2.1 ≤ b.length := by
  unfold tkSize at h ⊢
  by_cases h0 : (tkNum b 0).2.2 = 0
  · rw [if_pos h0] at h ⊢
    have := tkNum_ok b _ hb h0
    split at h
    · cases h
    · next h1 =>
      rw [if_neg h1]
      simp only
      omega
  · rw [if_neg h0] at h
    exact absurd h h0
section
variable {w : World}
set_option maxHeartbeats 16000000 in
set_option maxRecDepth 100000 in
theorem take18 (v : Value) (b : List Int) (most : Int) (hv : RdY w v b) (hb : By b) (hlm : b.length ≤ 1000000) :
    Calls Try.prog 18 #[v, .int .i64 most] w fun e w' => ∃ v' out z, e = .returned (.tuple #[v', .int .i64 z]) ∧ TkS b most (out, z) ∧ OwnY w' w.heap.size v' out ∧ Below w.heap.size w w' := by
  have HV := Hid.mk hv
  have HBy := Hid.mk hb
  have t1 := size35 v b most hv hb
  obtain ⟨PS, HPS⟩ : ∃ x, Hid (TkS b most = x) := ⟨_, ⟨rfl⟩⟩
  rw [HPS.out]
  have HP0 : Hid (∀ r, PS r = TkS b most r) := ⟨fun r => by rw [← HPS.out]⟩
  unfold TkS at HP0
  have HOk := Hid.mk (tkSize_ok (most := most) hb)
  generalize tkSize b most = K at t1 HP0 HOk
  obtain ⟨s, a, z⟩ := K
  simp only at t1 HP0 HOk
  obtain ⟨va, vc, e, hvc, hvm, _⟩ := hv.shape
  subst e
  obtain ⟨n, Hn⟩ : ∃ x, Hid (b.length = x) := ⟨_, ⟨rfl⟩⟩
  rw [Hn.out] at HV t1 hvc hlm ⊢
  by_cases hz : z = 0
  · subst hz
    have HOk2 := HOk.out rfl
    rw [Hn.out] at HOk2
    obtain ⟨hs0, hs1, ha0, ha1⟩ := HOk2
    obtain ⟨sz, rfl⟩ := Int.eq_ofNat_of_zero_le hs0
    obtain ⟨at1, rfl⟩ := Int.eq_ofNat_of_zero_le (Int.le_of_lt ha0)
    obtain ⟨g, off, c', e', _, hat⟩ := hv.at (i := 0) (by rw [Hn.out]; omega)
    rw [Hn.out] at e'
    simp only [Value.slice.injEq] at e'
    obtain ⟨rfl, -, rfl⟩ := e'
    have hgw : g < w.heap.size := World.block_lt_of_cell? _ _ (hat 0 (by rw [Hn.out]; omega))
    have HP1 : Hid (∀ r, PS r = _) := ⟨fun r => (HP0.out r).trans (if_neg (by simp))⟩
    simp only [Int.toNat_natCast] at HP1
    have ha2 : at1 ≤ n := by omega
    have HVx : Hid (∀ wx, Below w.heap.size w wx → RdY wx (.slice (some ⟨g, off, none⟩) n vc) b) := ⟨fun wx h => Rd.far HV.out (Chg.ofBelow (X := []) h) (by simp)⟩
    have t2 := fun W : World => fun h : RdY W (.slice (some ⟨g, off, none⟩) n vc) b => table36 (w := W) g off n vc b at1 sz h Hn.out hb
    have HTa := Hid.mk (tkTable_at (b := b) (a := at1) (size := sz) hb)
    have HTl := Hid.mk (tkTable_len b at1 sz)
    clear hv hb HP0 HOk hat HPS
    generalize tkTable b at1 sz = K2 at t2 HP1 HTa HTl
    obtain ⟨f, a2, z2⟩ := K2
    simp only at t2 HP1 HTa HTl
    obtain ⟨q, Hq⟩ : ∃ q, Hid (w.heap.size = q) := ⟨_, ⟨rfl⟩⟩
    obtain ⟨A, HA⟩ : ∃ A, Hid (ia f = A) := ⟨_, ⟨rfl⟩⟩
    have HI : Hid ((Try.prog.info? 22).map (·.size) = some A.size) := ⟨by rw [← HA.out]; exact info22f HTl.out⟩
    have T2 := Hid.mk t2
    clear t2
    go_enter Try.func18, Try.ntmps18
    go_wp2_with fail
    refine t1.mono ?_
    rintro e w1 ⟨rfl, hB1⟩
    have HB1 := Hid.mk hB1
    have t2 := T2.out w1 (HVx.out w1 hB1)
    clear t1 hB1
    go_wp2_with fail
    refine t2.mono ?_
    rintro e w2 ⟨rfl, hB2⟩
    have HB2 : Hid (Below w.heap.size w w2) := ⟨HB1.out.trans (hB2.mono HB1.out.size)⟩
    obtain ⟨r, Hr⟩ : ∃ q, Hid (w2.heap.size = q) := ⟨_, ⟨rfl⟩⟩
    obtain ⟨w3, Hw3, HL3, HB3⟩ := al22 w2 f
    rw [Hr.out] at Hw3 HL3
    have HB3q : Hid (Below w.heap.size w w3) := ⟨HB2.out.trans (HB3.out.mono HB2.out.size)⟩
    clear t2 hB2
    go_upto_region 5 with (first | (refine wp_new22 rfl rfl ?_; rw [Hr.out]) | (refine wp_put22 (f := z0) (g := f) rfl (.tmp 9) (.tmp 26) rfl rfl rfl z0_len HTl.out (by rw [← Hr.out]; exact heap_alloc_new w2 _) ?_; rw [Hw3.out]))
    by_cases hz2 : z2 = 0
    · subst hz2
      obtain ⟨h1, h2⟩ := HTa.out rfl
      rw [Hn.out] at h2
      obtain ⟨a3, rfl⟩ := Int.eq_ofNat_of_zero_le h1
      have ha3 : a3 ≤ n := by omega
      have ha3z : (a3 : Int) ≤ (n : Int) := h2
      have HP2 : Hid (∀ r, PS r = _) := ⟨fun r => (HP1.out r).trans (if_neg (by simp))⟩
      simp only [Int.toNat_natCast] at HP2
      have t3 := words12 (w := w3) f HTl.out
      rw [HA.out] at HL3 t3
      clear HP1 HTa h1
      cases hroom : hr f with
      | false =>
        rw [hroom] at t3 HP2
        simp only [Bool.false_eq_true, if_false] at t3
        have HFin : Hid (PS ([], 2)) := ⟨by rw [HP2.out, if_pos rfl]⟩
        have Hwl : Hid ((wsE f).length = 256) := ⟨wsE_len f⟩
        clear hroom HP2
        rw [HA.out]
        go_wp2_with (refine wp_load rfl 22 (.tmp 9) rfl r rfl A 22 (0, 0) _ HL3.out Try.underlying22 rfl HI.out ?_)
        refine t3.mono ?_
        rintro e w4 ⟨rfl, hB4⟩
        have HB4 : Hid (Below w.heap.size w w4) := ⟨HB3q.out.trans (hB4.mono HB3q.out.size)⟩
        obtain ⟨s, Hs⟩ : ∃ q, Hid (w4.heap.size = q) := ⟨_, ⟨rfl⟩⟩
        obtain ⟨w5, Hw5, HS5, HB5⟩ := al28 w4 (wsE f)
        rw [Hs.out] at Hw5 HS5
        have HB5q : Hid (Below w.heap.size w w5) := ⟨HB4.out.trans (HB5.out.mono HB4.out.size)⟩
        clear t3 hB4
        go_wp2_with (first | (refine wp_new28 rfl rfl ?_; rw [Hs.out]) | (refine wp_put28 (f := e0) (g := wsE f) rfl (.tmp 10) (.tmp 35) rfl rfl rfl e0_len Hwl.out (by rw [← Hs.out]; exact heap_alloc_new w4 _) ?_; rw [Hw5.out]))
        go_ret2
        exact ⟨_, [], 2, rfl, HFin.out, owny_nil _ _, HB5q.out⟩
      | true =>
        have Hroom := Hid.mk hroom
        have HPf : Hid (∀ r, PS r = Rs (wbt f) (b.drop a3) sz 0 [] r) := ⟨fun r => by rw [HP2.out, hroom, if_neg (by decide)]⟩
        have ewE : wsE f = ws f := by unfold wsE; rw [hroom]; rfl
        rw [hroom, ewE] at t3
        simp only [if_true] at t3
        have Hwl : Hid ((ws f).length = 256) := ⟨wls_len f 61 0⟩
        clear hroom HP2 ewE
        rw [HA.out]
        go_wp2_with (refine wp_load rfl 22 (.tmp 9) rfl r rfl A 22 (0, 0) _ HL3.out Try.underlying22 rfl HI.out ?_)
        refine t3.mono ?_
        rintro e w4 ⟨rfl, hB4⟩
        have HB4 : Hid (Below w.heap.size w w4) := ⟨HB3q.out.trans (hB4.mono HB3q.out.size)⟩
        obtain ⟨s, Hs⟩ : ∃ q, Hid (w4.heap.size = q) := ⟨_, ⟨rfl⟩⟩
        obtain ⟨w5, Hw5, HS5, HB5⟩ := al28 w4 (ws f)
        rw [Hs.out] at Hw5 HS5
        have HB5q : Hid (Below w.heap.size w w5) := ⟨HB4.out.trans (HB5.out.mono HB4.out.size)⟩
        clear t3 hB4
        go_upto_region 10 with (first | (refine wp_new28 rfl rfl ?_; rw [Hs.out]) | (refine wp_put28 (f := e0) (g := ws f) rfl (.tmp 10) (.tmp 35) rfl rfl rfl e0_len Hwl.out (by rw [← Hs.out]; exact heap_alloc_new w4 _) ?_; rw [Hw5.out]))
        have HDr : Hid (Below w5.heap.size w5 w5.drew) := ⟨(Below.refl _ _).drew⟩
        have HSx : Hid (∀ wx, Below w5.heap.size w5 wx → wx.heap[s]? = some (.cells (sa (ws f)) 28 (0, 0))) := ⟨fun wx h => below_at h HS5.out⟩
        have HBx : Hid (∀ wx, Below w5.heap.size w5 wx → Below w.heap.size w wx) := ⟨fun wx h => HB5q.out.trans (h.mono HB5q.out.size)⟩
        have Hby : Hid (By (b.drop a3)) := ⟨fun x hx => HBy.out x (List.mem_of_mem_drop hx)⟩
        have Hdl : Hid ((b.drop a3).length ≤ 1000000) := ⟨by rw [List.length_drop, Hn.out]; omega⟩
        have hcm : vc ≤ 9223372036854775807 := hvm
        have hszb : sz ≤ 8192 := by omega
        obtain ⟨n2, Hn2⟩ : ∃ x, Hid (n - a3 = x) := ⟨_, ⟨rfl⟩⟩
        obtain ⟨c2, Hc2⟩ : ∃ x, Hid (vc - a3 = x) := ⟨_, ⟨rfl⟩⟩
        have hnn : (n : Int) - (a3 : Int) = (n2 : Int) := by have := Hn2.out; omega
        have hcc : (vc : Int) - (a3 : Int) = (c2 : Int) := by have := Hc2.out; omega
        have ha3c : (a3 : Int) ≤ (vc : Int) := by omega
        refine wp_region_held_drew (S := fun wx => Below w5.heap.size w5 wx) (by kernel_rfl) HDr.out (fun hS => ?_)
        by_cases hca : vc = a3
        · have hcn : vc = n := by omega
          have hc20 : c2 = 0 := by have := Hc2.out; omega
          have hn20 : n2 = 0 := by have := Hn2.out; omega
          subst hc20
          subst hn20
          have hna : n = a3 := by omega
          subst hcn
          subst hna
          have HRx : Hid (∀ wx, Below w5.heap.size w5 wx → RdY wx (.slice (some ⟨g, off, none⟩) 0 0) (b.drop vc)) := ⟨fun wx h => by
            rw [List.drop_eq_nil_of_le (by rw [Hn.out]; exact Nat.le_refl _)]
            exact rdY_end _ _ _ (Nat.zero_le _)⟩
          refine wpAnyH_take (i := 0) (v := .slice (some ⟨g, off, none⟩) vc vc) rfl (by kernel_rfl) (by kernel_rfl) (by kernel_rfl) (fun _ _ _ h => h) (Or.inl ⟨by kernel_rfl, fun _ _ => by kernel_rfl⟩) hS ?_
          refine wpAnyH_take (i := 1) (v := .int .i64 (vc : Int)) rfl (by kernel_rfl) (by kernel_rfl) (by kernel_rfl) (fun _ _ _ h => h) (Or.inl ⟨by kernel_rfl, fun _ _ => by kernel_rfl⟩) hS ?_
          refine wpAnyH_take (i := 2) (v := .slice (some ⟨g, off, none⟩) 0 0) rfl (by kernel_rfl) (by kernel_rfl) (by kernel_rfl) (fun _ _ _ h => h) (Or.inl ⟨by kernel_rfl, fun wx hx => by go_simp⟩) hS ?_
          refine wpAnyH_take (i := 3) (v := .int .i64 (sz : Int)) rfl (by kernel_rfl) (by kernel_rfl) (by kernel_rfl) (fun _ _ _ h => h) (Or.inl ⟨by kernel_rfl, fun _ _ => by kernel_rfl⟩) hS ?_
          refine wpAnyH_take (i := 4) (v := .agg (sa (ws f))) rfl (by kernel_rfl) (by kernel_rfl) (by kernel_rfl) (fun _ _ _ h => h) (yieldsIf_load_mid (by kernel_rfl) 28 (.tmp 10) rfl s 0 (by kernel_rfl) ((ws f).map Value.string) _ (fun wx hx => fun j v hv => by rw [cell_of_row _ _ _ _ _ _ (HSx.out wx hx), Nat.zero_add]; unfold sa; rw [List.getElem?_toArray]; exact hv) Try.underlying28 rfl (by rw [List.length_map, Hwl.out]; exact info28)) hS ?_
          refine wpAnyH_ready (rs := [5]) (by kernel_rfl) (by simp) (AllReadyH.cons rfl (fun Kc hK => ?_) AllReadyH.nil)
          go_simp
          refine (words37 (w := _) f HTl.out Hroom.out (.slice (some ⟨g, off, none⟩) 0 0) (b.drop vc) sz (HRx.out _ hS) Hby.out Hdl.out hszb (fun y hy => by have h1 := mem_ob.1 hy; have h2 := Option.some.inj h1; simp only at h2; have h3 := (HBx.out _ hS).size; omega)).mono ?_
          rintro e w7 ⟨v7, out, z, rfl, hR7, hO7, hB7⟩
          have hS7 : Below w5.heap.size w5 w7 := hS.trans (hB7.mono hS.size)
          have HR7 : Hid (PS (out, z)) := ⟨by rw [HPf.out]; exact hR7⟩
          have HO7 : Hid (OwnY w7 w.heap.size v7 out) := ⟨own_base hO7 (fun y hy => by
            have h1 := (World.ownsRow.lt hO7 y hy).1
            have h2 := HB5q.out.size
            have h3 := hS.size
            omega)⟩
          refine hK.out _ _ hS7 (fun hS => ?_)
          clear hK hR7 hO7 hB7
          refine wpAnyH_take (i := 6) (v := v7) rfl (by kernel_rfl) (by kernel_rfl) (by kernel_rfl) (fun _ _ _ h => h) (Or.inl ⟨by kernel_rfl, fun wx hx => by go_simp⟩) hS ?_
          refine wpAnyH_take (i := 7) (v := .int .i64 z) rfl (by kernel_rfl) (by kernel_rfl) (by kernel_rfl) (fun _ _ _ h => h) (Or.inl ⟨by kernel_rfl, fun wx hx => by go_simp⟩) hS ?_
          refine wpAnyH_take (i := 8) (v := v7) rfl (by kernel_rfl) (by kernel_rfl) (by kernel_rfl) (fun _ _ _ h => h) (Or.inl ⟨by kernel_rfl, fun wx hx => by go_simp⟩) hS ?_
          refine wpAnyH_take (i := 9) (v := .int .i64 z) rfl (by kernel_rfl) (by kernel_rfl) (by kernel_rfl) (fun _ _ _ h => h) (Or.inl ⟨by kernel_rfl, fun wx hx => by go_simp⟩) hS ?_
          refine wpAnyH_done (by kernel_rfl) ?_ _
          go_simp
          go_wp2_with fail
          go_ret2
          exact ⟨v7, out, z, rfl, HR7.out, HO7.out, HBx.out _ hS7⟩
        · have hca2 : ¬ (vc : Int) - (a3 : Int) = 0 := by omega
          have hca3 : ¬ a3 = vc := fun e => hca e.symm
          have hn2 := Hn2.out
          have hc2 := Hc2.out
          have HRx : Hid (∀ wx, Below w5.heap.size w5 wx → RdY wx (.slice (some ⟨g, off + a3, none⟩) n2 c2) (b.drop a3)) := ⟨fun wx h => by
            have := rdY_drop (HVx.out wx (HBx.out wx h)) ha3
            rw [Hn2.out, Hc2.out] at this
            exact this⟩
          refine wpAnyH_take (i := 0) (v := .slice (some ⟨g, off, none⟩) n vc) rfl (by kernel_rfl) (by kernel_rfl) (by kernel_rfl) (fun _ _ _ h => h) (Or.inl ⟨by kernel_rfl, fun _ _ => by kernel_rfl⟩) hS ?_
          refine wpAnyH_take (i := 1) (v := .int .i64 (a3 : Int)) rfl (by kernel_rfl) (by kernel_rfl) (by kernel_rfl) (fun _ _ _ h => h) (Or.inl ⟨by kernel_rfl, fun _ _ => by kernel_rfl⟩) hS ?_
          refine wpAnyH_take (i := 2) (v := .slice (some ⟨g, off + a3, none⟩) n2 c2) rfl (by kernel_rfl) (by kernel_rfl) (by kernel_rfl) (fun _ _ _ h => h) (Or.inl ⟨by kernel_rfl, fun wx hx => by go_simp⟩) hS ?_
          refine wpAnyH_take (i := 3) (v := .int .i64 (sz : Int)) rfl (by kernel_rfl) (by kernel_rfl) (by kernel_rfl) (fun _ _ _ h => h) (Or.inl ⟨by kernel_rfl, fun _ _ => by kernel_rfl⟩) hS ?_
          refine wpAnyH_take (i := 4) (v := .agg (sa (ws f))) rfl (by kernel_rfl) (by kernel_rfl) (by kernel_rfl) (fun _ _ _ h => h) (yieldsIf_load_mid (by kernel_rfl) 28 (.tmp 10) rfl s 0 (by kernel_rfl) ((ws f).map Value.string) _ (fun wx hx => fun j v hv => by rw [cell_of_row _ _ _ _ _ _ (HSx.out wx hx), Nat.zero_add]; unfold sa; rw [List.getElem?_toArray]; exact hv) Try.underlying28 rfl (by rw [List.length_map, Hwl.out]; exact info28)) hS ?_
          refine wpAnyH_ready (rs := [5]) (by kernel_rfl) (by simp) (AllReadyH.cons rfl (fun Kc hK => ?_) AllReadyH.nil)
          go_simp
          refine (words37 (w := _) f HTl.out Hroom.out (.slice (some ⟨g, off + a3, none⟩) n2 c2) (b.drop a3) sz (HRx.out _ hS) Hby.out Hdl.out hszb (fun y hy => by have h1 := mem_ob.1 hy; have h2 := Option.some.inj h1; simp only at h2; have h3 := (HBx.out _ hS).size; omega)).mono ?_
          rintro e w7 ⟨v7, out, z, rfl, hR7, hO7, hB7⟩
          have hS7 : Below w5.heap.size w5 w7 := hS.trans (hB7.mono hS.size)
          have HR7 : Hid (PS (out, z)) := ⟨by rw [HPf.out]; exact hR7⟩
          have HO7 : Hid (OwnY w7 w.heap.size v7 out) := ⟨own_base hO7 (fun y hy => by
            have h1 := (World.ownsRow.lt hO7 y hy).1
            have h2 := HB5q.out.size
            have h3 := hS.size
            omega)⟩
          refine hK.out _ _ hS7 (fun hS => ?_)
          clear hK hR7 hO7 hB7
          refine wpAnyH_take (i := 6) (v := v7) rfl (by kernel_rfl) (by kernel_rfl) (by kernel_rfl) (fun _ _ _ h => h) (Or.inl ⟨by kernel_rfl, fun wx hx => by go_simp⟩) hS ?_
          refine wpAnyH_take (i := 7) (v := .int .i64 z) rfl (by kernel_rfl) (by kernel_rfl) (by kernel_rfl) (fun _ _ _ h => h) (Or.inl ⟨by kernel_rfl, fun wx hx => by go_simp⟩) hS ?_
          refine wpAnyH_take (i := 8) (v := v7) rfl (by kernel_rfl) (by kernel_rfl) (by kernel_rfl) (fun _ _ _ h => h) (Or.inl ⟨by kernel_rfl, fun wx hx => by go_simp⟩) hS ?_
          refine wpAnyH_take (i := 9) (v := .int .i64 z) rfl (by kernel_rfl) (by kernel_rfl) (by kernel_rfl) (fun _ _ _ h => h) (Or.inl ⟨by kernel_rfl, fun wx hx => by go_simp⟩) hS ?_
          refine wpAnyH_done (by kernel_rfl) ?_ _
          go_simp
          go_wp2_with fail
          go_ret2
          exact ⟨v7, out, z, rfl, HR7.out, HO7.out, HBx.out _ hS7⟩
    · have hzb : (z2 != 0) = true := by simpa using hz2
      have HFin : Hid (PS ([], z2)) := ⟨by rw [HP1.out, if_pos hz2]⟩
      clear hz2 HP1 HTa
      go_wp2_with fail
      go_ret2
      exact ⟨_, [], z2, rfl, HFin.out, owny_nil _ _, HB3q.out⟩
  · have hzb : (z != 0) = true := by simpa using hz
    have HFin : Hid (PS ([], z)) := ⟨by rw [HP0.out, if_pos hz]⟩
    clear hv hb HP0 HOk hz
    go_enter Try.func18, Try.ntmps18
    go_wp2_with fail
    refine t1.mono ?_
    rintro e w1 ⟨rfl, hB1⟩
    have HB1 := Hid.mk hB1
    clear t1 hB1
    go_wp2_with fail
    go_ret2
    exact ⟨_, [], z, rfl, HFin.out, owny_nil _ _, HB1.out⟩
end
end Go.Proofs.Ytfecngncapenjaa
