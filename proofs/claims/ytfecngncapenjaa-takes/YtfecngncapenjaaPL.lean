/- The lengths of codes have words; a word's bits (plain mathematics). -/
import Derived.Test.YtfecngncapenjaaH17
import Derived.Test.YtfecngncapenjaaP1
import Derived.Test.YtfecngncapenjaaP2
namespace Go.Proofs.Ytfecngncapenjaa
open Hf

def tr (t : AT) : Tr := ⟨t.1.toNat, fun i => decide ((i : Int) ∈ t.2.2)⟩
theorem tr_join {x y : AT} (hx : 0 ≤ x.1) (hy : 0 ≤ y.1) : tr (joinA x y) = (tr x).join (tr y) := by
  simp only [tr, joinA, Tr.join, Tr.mk.injEq, List.mem_append, Bool.decide_or]
  exact ⟨by omega, trivial⟩
def outN (g : List Int) (i : Nat) : Nat := (g.getD i 0).toNat
theorem ge_zero {F0 F : List AT} {g : List Int} (h0 : FineA F0) (h : RunA F0 F g) (i : Nat) : 0 ≤ g.getD i 0 := (h.small h0 i).1
theorem runA_run {F0 F : List AT} {g : List Int} (h0 : FineA F0) (h : RunA F0 F g) : ∃ G, Run (F0.map tr) G (outN g) ∧ G.Perm (F.map tr) := by
  induction h with
  | init F p =>
    refine ⟨F0.map tr, ?_, (p.map tr).symm⟩
    have e : outN z0 = fun _ => 0 := funext fun i => by unfold outN; rw [z0_get]; rfl
    rw [e]
    exact Run.init
  | step F G rest x y g h1 p hx hy q ih =>
    obtain ⟨G1, hR, hp⟩ := ih
    have hf := (h1.fine h0).perm p
    have px := (hf.each x (by simp)).pos
    have py := (hf.each y (by simp)).pos
    have hj := (two_fine hf).2.2.2.2.2
    have ej := tr_join (x := x) (y := y) (by omega) (by omega)
    have hp2 : G1.Perm (tr x :: tr y :: rest.map tr) := hp.trans (p.map tr)
    refine ⟨(tr x).join (tr y) :: rest.map tr, ?_, ?_⟩
    · have e : outN (bump g (joinA x y).2.2) = fun i => if ((tr x).join (tr y)).has i then outN g i + 1 else outN g i := funext fun i => by
        have hg := ge_zero h0 h1 i
        unfold outN
        rw [bump_get h1.len hj.by' hj.nodup, ← ej]
        simp only [tr, decide_eq_true_eq]
        by_cases hi : (i : Int) ∈ (joinA x y).2.2
        · rw [if_pos hi, if_pos hi]; omega
        · rw [if_neg hi, if_neg hi]; omega
      rw [e]
      refine Run.step G1 (rest.map tr) (tr x) (tr y) (outN g) hR hp2 (fun t ht => ?_)
      obtain ⟨s, hs, rfl⟩ := List.mem_map.1 ht
      have a := of_decide_eq_false (hx s (List.mem_cons_of_mem _ hs))
      have b := of_decide_eq_false (hy s hs)
      simp only [tr]
      exact ⟨by omega, by omega⟩
    · rw [← ej]
      exact ((q.map tr).symm)
theorem sm_one {c : Nat} {v : Nat} : ∀ n, c < n → sm (fun i => if i = c then v else 0) n = v
  | 0, h => absurd h (Nat.not_lt_zero c)
  | n + 1, h => by
    rw [sm]
    by_cases e : c = n
    · subst e
      rw [sm_congr c (g := fun _ => 0) (fun i hi => if_neg (by omega)), sm_zero, if_pos rfl]; omega
    · rw [sm_one n (by omega), if_neg (fun e' => e e'.symm)]; omega
def cN (f : List Int) (i : Nat) : Nat := (f.getD i 0).toNat
theorem T0_init {f : List Int} (h0 : FineA (T0 f 256)) : Init (cN f) ((T0 f 256).map tr) := by
  have one : ∀ t ∈ (T0 f 256).map tr, ∃ c : Nat, c < 256 ∧ 0 < f.getD c 0 ∧ t.w = cN f c ∧ ∀ i, t.has i = decide (i = c) := fun t ht => by
    obtain ⟨s, hs, rfl⟩ := List.mem_map.1 ht
    obtain ⟨c, hc, hp, rfl⟩ := T0_spec f 256 s hs
    refine ⟨c, hc, hp, rfl, fun i => ?_⟩
    simp only [tr, List.mem_singleton]
    exact decide_eq_decide.2 (by omega)
  refine ⟨?_, fun t ht => ?_, fun t ht => ?_, fun t ht M => ?_⟩
  · rw [List.pairwise_map]
    refine h0.apart.imp fun {a b} hab i hi => ?_
    simp only [tr, decide_eq_true_eq] at hi
    exact hab _ hi.1 hi.2
  · obtain ⟨c, hc, hp, hw, _⟩ := one t ht
    rw [hw]; unfold cN; omega
  · obtain ⟨c, hc, hp, hw, hh⟩ := one t ht
    rw [hw, sm_congr (g := fun i => if i = c then cN f c else 0) 256 (fun i _ => ?_), sm_one 256 hc]
    rw [hh i]
    by_cases e : i = c
    · subst e; simp
    · simp [e]
  · obtain ⟨c, hc, hp, hw, hh⟩ := one t ht
    rw [sm_congr (g := fun i => if i = c then 2 ^ M else 0) 256 (fun i _ => ?_), sm_one 256 hc]
    rw [hh i]
    by_cases e : i = c
    · subst e; simp
    · simp [e]
/-- What lengths of codes are. -/
structure Good (f g : List Int) : Prop where
  room : hr g = true
  low : ∀ i, 0 ≤ g.getD i 0 ∧ g.getD i 0 ≤ 29
  same : ∀ i, i < 256 → (0 < f.getD i 0 ↔ 0 < g.getD i 0)
theorem hr_of {g : List Int} (hg : g.length = 256) (hl : ∀ i, 0 ≤ g.getD i 0 ∧ g.getD i 0 ≤ 29) (hs : sm (fun i => if g.getD i 0 = 0 then 0 else 2 ^ (60 - (g.getD i 0).toNat)) 256 ≤ 2 ^ 60) : hr g = true := by
  refine hr_ok (fun k _ => ?_) ?_
  · have := hl k
    unfold okB
    rw [decide_eq_true this.1, decide_eq_true (by omega)]; rfl
  · have h := krs_sm g 256 (by omega)
    rw [List.take_of_length_le (by omega)] at h
    rw [h]; exact hs
theorem T0_mem {f : List Int} : ∀ k c, c < k → 0 < f.getD c 0 → (f.getD c 0, (c : Int), [(c : Int)]) ∈ T0 f k
  | 0, c, h, _ => absurd h (Nat.not_lt_zero c)
  | k + 1, c, h, hp => by
    rw [T0]
    by_cases e : c = k
    · subst e
      rw [if_pos hp]; simp
    · exact List.mem_append_left _ (T0_mem k c (by omega) hp)
theorem LenS.good {f g : List Int} (h0 : FineA (T0 f 256)) (h : LenS f g) : Good f g := by
  have hlen := h.len
  rcases h with ⟨h1, t, ht, rfl⟩ | ⟨h1, F, hF, hl⟩
  · obtain ⟨c, hc, hp, rfl⟩ := T0_spec f 256 t (by rw [ht]; simp)
    simp only [Int.toNat_natCast] at hlen ⊢
    have hget : ∀ i, (z0.set c 1).getD i 0 = if i = c then 1 else 0 := fun i => by
      rw [set_getD z0 c i 1 (by rw [z0_len]; exact hc), z0_get]
    have hlow : ∀ i, 0 ≤ (z0.set c 1).getD i 0 ∧ (z0.set c 1).getD i 0 ≤ 29 := fun i => by
      rw [hget i]
      by_cases e : i = c
      · rw [if_pos e]; omega
      · rw [if_neg e]; omega
    refine ⟨hr_of hlen hlow ?_, hlow, fun i hi => ?_⟩
    · rw [sm_congr (g := fun i => if i = c then 2 ^ 59 else 0) 256 (fun i _ => ?_), sm_one 256 hc]
      · decide
      · rw [hget i]
        by_cases e : i = c
        · rw [if_pos e, if_pos e]; rfl
        · rw [if_neg e, if_neg e]; rfl
    · rw [hget i]
      by_cases e : i = c
      · rw [if_pos e, e]; exact ⟨fun _ => by omega, fun _ => hp⟩
      · rw [if_neg e]
        refine ⟨fun hq => ?_, fun hq => by omega⟩
        have hm := T0_mem 256 i hi hq
        rw [ht] at hm
        simp at hm
        omega
  · by_cases hn : T0 f 256 = []
    · have hg : g = z0 := by
        cases hF with
        | init _ p => rfl
        | step F' _ rest x y g' a b c' d e =>
          exfalso
          have h2 := a.few
          have h3 := b.length_eq
          rw [hn] at h2
          simp only [List.length_cons, List.length_nil] at h2 h3
          omega
      subst hg
      have hlow : ∀ i, 0 ≤ z0.getD i 0 ∧ z0.getD i 0 ≤ 29 := fun i => by rw [z0_get]; omega
      refine ⟨hr_of hlen hlow ?_, hlow, fun i hi => ?_⟩
      · rw [sm_congr (g := fun _ => 0) 256 (fun i _ => by rw [z0_get]; rfl), sm_zero]
        exact Nat.zero_le _
      · rw [z0_get]
        refine ⟨fun hq => ?_, fun hq => by omega⟩
        have hm := T0_mem 256 i hi hq
        rw [hn] at hm
        cases hm
    · have hne := hF.some hn
      obtain ⟨t, hFt⟩ : ∃ t, F = [t] := List.length_eq_one_iff.1 (by have := List.length_pos_iff.2 hne; omega)
      subst hFt
      obtain ⟨G, hR, hp⟩ := runA_run h0 hF
      have hG : G = [tr t] := by simpa using hp.eq_singleton
      subst hG
      have hI := hR.inv (T0_init h0)
      have hfine := hF.fine h0
      have hw : (tr t).w ≤ 2097152 := by
        have := hfine.sumC
        have hp := (hfine.each t (by simp)).pos
        simp only [sC] at this
        simp only [tr]
        omega
      have hlow : ∀ i, 0 ≤ g.getD i 0 ∧ g.getD i 0 ≤ 29 := fun i => by
        have h2 := ge_zero h0 hF i
        refine ⟨h2, ?_⟩
        by_cases hh : (tr t).has i = true
        · have := hI.short (by simp) hw hh
          unfold outN at this
          omega
        · have := hI.free i (fun s hs => by simp at hs; rw [hs]; simpa using hh)
          unfold outN at this
          omega
      have hpos : ∀ i, (tr t).has i = true → 0 < g.getD i 0 := by
        intro i hi
        cases hF with
        | init _ p =>
          exfalso
          have := p.length_eq
          exact h1 (by rw [← this]; rfl)
        | step F' _ rest x y g' a b c' d e =>
          have hl2 := e.length_eq
          simp only [List.length_cons, List.length_nil] at hl2
          have hr0 : rest = [] := List.length_eq_zero_iff.1 (by omega)
          subst hr0
          have et : t = joinA x y := by simpa using e.eq_singleton
          subst et
          have hj := (two_fine ((a.fine h0).perm b)).2.2.2.2.2
          rw [bump_get a.len hj.by' hj.nodup, if_pos (by simpa [tr] using hi)]
          have := ge_zero h0 a i
          omega
      refine ⟨hr_of hlen hlow ?_, hlow, fun i hi => ?_⟩
      · have hk := hI.kraft (tr t) (by simp) 60 (fun i _ hi => by have := hI.short (by simp) hw hi; omega)
        rw [sm_congr (g := fun i => if (tr t).has i then 2 ^ (60 - outN g i) else 0) 256 (fun i _ => ?_), hk]
        · exact Nat.le_refl _
        · by_cases hh : (tr t).has i = true
          · have := hpos i hh
            rw [if_pos hh, if_neg (by omega)]; rfl
          · have h2 := hI.free i (fun s hs => by simp at hs; rw [hs]; simpa using hh)
            have h3 := hlow i
            unfold outN at h2
            rw [if_neg hh, if_pos (by omega)]
      · have hs := hI.same i
        have ha : (∃ s ∈ [tr t], s.has i = true) ↔ (tr t).has i = true := by simp
        have hb : (∃ s ∈ (T0 f 256).map tr, s.has i = true) ↔ 0 < f.getD i 0 := by
          constructor
          · rintro ⟨s, hs, hh⟩
            obtain ⟨u, hu, rfl⟩ := List.mem_map.1 hs
            obtain ⟨c, hc, hq, rfl⟩ := T0_spec f 256 u hu
            simp only [tr, List.mem_singleton, decide_eq_true_eq] at hh
            have : i = c := by omega
            rw [this]; exact hq
          · intro hq
            exact ⟨_, List.mem_map_of_mem (T0_mem 256 i hi hq), by simp [tr]⟩
        rw [ha, hb] at hs
        rw [← hs]
        refine ⟨hpos i, fun hq => ?_⟩
        by_cases hh : (tr t).has i = true
        · exact hh
        · exfalso
          have h2 := hI.free i (fun s hs => by simp at hs; rw [hs]; simpa using hh)
          unfold outN at h2
          omega
theorem bits_get : ∀ (L n k : Nat), k < L → (Wd.bits L n).getD k 0 = n / 2 ^ (L - 1 - k) % 2
  | 0, _, k, h => absurd h (Nat.not_lt_zero k)
  | L + 1, n, k, h => by
    rw [Wd.bits]
    by_cases e : k = L
    · subst e
      simp only [List.getD]
      rw [List.getElem?_append_right (by rw [Wd.bits_len]; exact Nat.le_refl _), Wd.bits_len, Nat.sub_self]
      simp
    · have hk : k < L := by omega
      have := bits_get L (n / 2) k hk
      simp only [List.getD] at this ⊢
      rw [List.getElem?_append_left (by rw [Wd.bits_len]; exact hk), this, Nat.div_div_eq_div_mul, show L + 1 - 1 - k = (L - 1 - k) + 1 by omega, Nat.pow_succ, Nat.mul_comm]
theorem wds_bits (n L : Nat) : ∀ k, k ≤ L → wds n L k = ((Wd.bits L n).take k).map (fun b => ((48 + b : Nat) : Int))
  | 0, _ => by simp [wds]
  | k + 1, h => by
    have hk : k < (Wd.bits L n).length := by rw [Wd.bits_len]; omega
    rw [wds, wds_bits n L k (by omega), List.take_add_one, List.getElem?_eq_getElem hk, List.map_append]
    congr 1
    have := bits_get L n k (by omega)
    simp only [List.getD, List.getElem?_eq_getElem hk, Option.getD_some] at this
    simp only [Option.toList_some, List.map_cons, List.map_nil, this]
/-- A byte's bits. -/
def wbt (g : List Int) (c : Nat) : List Nat := Wd.bits (ln g c) (wv g c)
theorem wb_bits (g : List Int) (c : Nat) : wb g c = strOfNums ((wbt g c).map (fun b => ((48 + b : Nat) : Int))) := by
  unfold wb wbt
  rw [wds_bits _ _ _ (Nat.le_refl _), List.take_of_length_le (by rw [Wd.bits_len]; exact Nat.le_refl _)]
theorem str_at (X : ByteArray) (k : Nat) (h : k < X.size) : X.data.toList[k]? = some X[k] := by
  rw [List.getElem?_eq_getElem (by simpa using h)]; rfl
theorem str_bw {bs : List Nat} (h : ∀ b ∈ bs, b < 2) : BW (strOfNums (bs.map (fun b => ((48 + b : Nat) : Int)))) bs := by
  refine ⟨by rw [strOfNums_size, List.length_map], fun k hk => ?_, h⟩
  have hk' : k < bs.length := by rw [strOfNums_size, List.length_map] at hk; exact hk
  have hb := h bs[k] (List.getElem_mem hk')
  have e : (strOfNums (bs.map (fun b => ((48 + b : Nat) : Int))))[k] = UInt8.ofNat (48 + bs[k]) := by
    have h1 : (strOfNums (bs.map (fun b => ((48 + b : Nat) : Int)))).data.toList[k]? = some (UInt8.ofNat (48 + bs[k])) := by
      rw [strOfNums_data, List.map_map, List.getElem?_map, List.getElem?_eq_getElem hk', Option.map_some]
      show some (UInt8.ofNat (((48 + bs[k] : Nat) : Int)).toNat) = _
      rw [Int.toNat_natCast]
    have h2 := str_at (strOfNums (bs.map (fun b => ((48 + b : Nat) : Int)))) k hk
    rw [h1] at h2
    exact (Option.some.inj h2).symm
  rw [e, show bs.getD k 0 = bs[k] by unfold List.getD; rw [List.getElem?_eq_getElem hk']; rfl, UInt8.toNat_ofNat']
  generalize bs[k] = b at hb
  show (48 + b) % 256 = 48 + b
  omega
theorem wbt_bin (g : List Int) (c : Nat) : ∀ b ∈ wbt g c, b < 2 := fun b hb => by
  have := Wd.bits_bin _ _ b hb
  omega
theorem wb_bw (g : List Int) (c : Nat) : BW (wb g c) (wbt g c) := by rw [wb_bits]; exact str_bw (wbt_bin g c)
end Go.Proofs.Ytfecngncapenjaa
