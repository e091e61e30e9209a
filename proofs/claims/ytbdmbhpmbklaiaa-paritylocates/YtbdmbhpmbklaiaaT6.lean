/- The document's Encode. -/
import Derived.Test.YtbdmbhpmbklaiaaT5
namespace Go.Proofs.Ytbdmbhpmbklaiaa
open Go.RowKit Gf

/-- A code, and rows where it is 0. -/
def ResV (w' : World) (code : Int) (M : List Sd) (v : Value) (z : Int) : Prop := z = code ∧ (z ≠ 0 → v = .slice none 0 0) ∧ (z = 0 → RdR w' (w'.heap.size, 5) v M)
theorem RepV.res {w' : World} {base : Nat} {L : List Sd} {k : Int} {v : Value} {z : Int} (h : RepV w' base L k v z) : ResV w' (chkE L k) ((List.range L.length).map (repS L k.toNat)) v z := ⟨h.1, h.2.1, fun e => (h.2.2 e).rd.old⟩
theorem rdR_empty (w : World) (B : Nat × TypeId) (a : Addr) : RdR w B (.slice (some a) 0 0) [] := ⟨[], ⟨some a, 0, rfl, Nat.le_refl _, by decide, by simp, fun x _ i hi => by simp at hi⟩, Each.nil _ _⟩
theorem rdR_drop {w : World} {B : Nat × TypeId} {g off n c : Nat} {L : List Sd} (h : RdR w B (.slice (some ⟨g, off, none⟩) n c) L) (k : Nat) (hk : k ≤ n) : RdR w B (.slice (some ⟨g, off + k, none⟩) (n - k) (c - k)) (L.drop k) := by
  obtain ⟨vs, ⟨a, c', e, h1, h2, h3, h4⟩, hE⟩ := h
  simp only [Value.slice.injEq] at e
  obtain ⟨rfl, rfl, rfl⟩ := e
  refine ⟨vs.drop k, ⟨some ⟨g, off + k, none⟩, c - k, by rw [List.length_drop], by rw [List.length_drop]; omega, by omega, by simp, fun x hx i hi => ?_⟩, by rw [List.length_drop, List.length_drop, hE.1], fun i hi => ?_⟩
  · cases hx
    rw [List.length_drop] at hi
    have h5 := h4 _ rfl (k + i) (by omega)
    rw [add_plain] at h5 ⊢
    rw [List.getElem?_drop, ← h5, Nat.add_assoc]
  · rw [List.length_drop] at hi
    obtain ⟨u, hu, hs⟩ := hE.2 (k + i) (by omega)
    refine ⟨u, by rw [List.getElem?_drop]; exact hu, ?_⟩
    have e : (L.drop k).getD i none = L.getD (k + i) none := by simp only [List.getD]; rw [List.getElem?_drop]
    rw [e]
    exact hs
/-- The same shards, none of them lost. -/
def cpy (L : List Sd) : List Sd := L.map (fun s => some (sl s))
theorem cpy_len (L : List Sd) : (cpy L).length = L.length := by simp [cpy]
theorem cpy_get (L : List Sd) {i : Nat} (h : i < L.length) : (cpy L).getD i none = some (sl (L.getD i none)) := by simp [cpy, List.getD, List.getElem?_eq_getElem h]
theorem cpy_sl (L : List Sd) (i : Nat) : sl ((cpy L).getD i none) = sl (L.getD i none) := by
  by_cases h : i < L.length
  · rw [cpy_get L h]; rfl
  · simp [cpy, List.getD, List.getElem?_eq_none (show L.length ≤ i by omega)]
theorem cpy_left (L : List Sd) : left (cpy L) = cpy L := by
  unfold left
  rw [List.filter_eq_self]
  intro s hs
  obtain ⟨t, _, rfl⟩ := List.mem_map.1 hs
  rfl
theorem cpy_frm (L : List Sd) : frm (cpy L) = frm L := by
  unfold frm
  rw [cpy_sl]
  simp only [cpy, List.any_map]
  rfl
theorem cpy_lf (L : List Sd) : ∀ i, i ≤ L.length → lfP (cpy L) (L.length : Int) i = pls i ∧ lfR (cpy L) (L.length : Int) i = cpy (L.take i)
  | 0, _ => ⟨rfl, rfl⟩
  | i + 1, h => by
    obtain ⟨h1, h2⟩ := cpy_lf L i (by omega)
    have hs : ((cpy L).getD i none).isSome = true := by rw [cpy_get L (by omega)]; rfl
    refine ⟨?_, ?_⟩
    · rw [lfP, h1, if_pos ⟨hs, by rw [pls_len]; omega⟩, ← pls_succ]
    · rw [lfR, h2, if_pos ⟨hs, by rw [cpy_len, List.length_take]; omega⟩, cpy_get L (by omega), List.take_succ_eq_append_getElem (by omega)]
      simp only [cpy, List.map_append, List.map_cons, List.map_nil]
      congr 4
      simp [List.getD, List.getElem?_eq_getElem (show i < L.length by omega)]
theorem cpy_lfP (L : List Sd) : lfP (cpy L) (L.length : Int) (cpy L).length = pls L.length := by rw [cpy_len]; exact (cpy_lf L _ (Nat.le_refl _)).1
theorem cpy_lfR (L : List Sd) : lfR (cpy L) (L.length : Int) (cpy L).length = cpy L := by rw [cpy_len, (cpy_lf L _ (Nat.le_refl _)).2, List.take_length]
theorem cpy_grp (xs : List G) (L : List Sd) (n : Nat) (x : G) : grp xs (cpy L) n x = grp xs L n x := by
  unfold grp
  congr 1
  funext b
  congr 1
  funext j
  rw [cpy_sl]
section
variable {w : World}
theorem enc11 (v : Value) (L : List Sd) (m : Int) {B : Nat × TypeId} (hv : RdR w B v L) (hl : L.length ≤ 1000000) (h4 : ∀ i, i < L.length → (sl (L.getD i none)).length ≤ 4096) :
    Calls Try.prog 11 #[v, .int .i64 m] w fun e w' => ∃ a n c z, e = .returned (.tuple #[.slice a n c, .int .i64 z]) ∧ ResV w' (encE L m) ((List.range m.toNat).map (encS L)) (.slice a n c) z ∧ Below w.heap.size w w' := by
  by_cases hc : encE L m = 0
  · obtain ⟨h1, ⟨n, rfl, hn⟩, h3⟩ := enc_parts hc
    refine (enc_ok v L n hv h1 hn h4 h3).mono ?_
    rintro e w' ⟨a, k, c, rfl, hO, hB⟩
    exact ⟨a, k, c, 0, rfl, ⟨hc.symm, fun h => absurd rfl h, fun _ => by rw [Int.toNat_natCast]; exact hO.rd.old⟩, hB⟩
  · refine (enc_no v L m hv hl h4 hc).mono ?_
    rintro e w' ⟨rfl, hB⟩
    exact ⟨none, 0, 0, _, rfl, ⟨rfl, fun _ => rfl, fun h => absurd h hc⟩, hB⟩
end
section
variable {w : World} {ops : Array Oper} {rest : List Oper} {o : Oper} {a : Act} {Q : Exit → Act → World → Prop}
theorem wp_appG (hgd : o.guard = none) (s x : Operand)
    (ho : o.op = .call { callee := .builtin .append, args := #[s, x], argTypes := #[33, 33] })
    {base : Nat} {v u : Value} {xs ys : List G} (hs : a.eval s = v) (hown : OwnG w base v xs)
    (hx : a.eval x = u) (hu : RdG w u ys) (hlen : xs.length + ys.length ≤ 1000000000000) (hbase : base ≤ w.heap.size)
    (h : ∀ v' w', OwnG w' base v' (xs ++ ys) → Chg (ob v) w w' → (v'.ownBlock = v.ownBlock ∨ v'.ownBlock = some w.heap.size) → wpList Try.prog ops Q rest (a.put o.dst v') w') :
    wpList Try.prog ops Q (o :: rest) a w :=
  wp_appY hgd s x ho hs hown hx hu (by rw [List.length_map, List.length_map]; exact hlen) hbase (fun v' w' h1 h2 h3 => h v' w' (by unfold OwnG; rw [List.map_append]; exact h1) h2 h3)
end
section
variable {w : World}
set_option maxHeartbeats 8000000 in
set_option maxRecDepth 100000 in
theorem renc12 (v : Value) (L : List Sd) (m : Int) {B : Nat × TypeId} (hv : RdR w B v L) (hl : L.length ≤ 1000000) (h4 : ∀ i, i < L.length → (sl (L.getD i none)).length ≤ 4096) :
    Calls Try.prog 12 #[v, .int .i64 m] w fun e w' => ∃ a n c z, e = .returned (.tuple #[.slice a n c, .int .i64 z]) ∧ ResV w' (encE L m) ((List.range m.toNat).map (encS L)) (.slice a n c) z ∧ Below w.heap.size w w' := by
  obtain ⟨va, vc, rfl, h1, h2, _⟩ := hv.shape
  have HV := Hid.mk hv
  have H4 := Hid.mk h4
  obtain ⟨n, Hn⟩ : ∃ n, Hid (L.length = n) := ⟨_, ⟨rfl⟩⟩
  rw [Hn.out] at hl h1 HV ⊢
  clear hv h4 h2
  by_cases ha1 : n < 1
  · have HR : Hid (encE L m = 2) := ⟨by unfold encE; rw [Hn.out, if_pos (.inl (by omega))]⟩
    have ha1z : (n : Int) < 1 := by omega
    go_enter Try.func12, Try.ntmps12
    go_wp2_with fail
    go_ret2
    exact ⟨_, _, _, _, rfl, ⟨HR.out.symm, fun _ => rfl, fun h => by simp at h⟩, Below.refl _ _⟩
  · by_cases ha2 : 32 < n
    · have HR : Hid (encE L m = 2) := ⟨by unfold encE; rw [Hn.out, if_pos (.inl (by omega))]⟩
      have ha2z : (32 : Int) < (n : Int) := by omega
      go_enter Try.func12, Try.ntmps12
      go_wp2_with fail
      go_ret2
      exact ⟨_, _, _, _, rfl, ⟨HR.out.symm, fun _ => rfl, fun h => by simp at h⟩, Below.refl _ _⟩
    · by_cases ha3 : m < 0
      · have HR : Hid (encE L m = 2) := ⟨by unfold encE; rw [if_pos (.inr (by omega))]⟩
        go_enter Try.func12, Try.ntmps12
        go_wp2_with fail
        go_ret2
        exact ⟨_, _, _, _, rfl, ⟨HR.out.symm, fun _ => rfl, fun h => by simp at h⟩, Below.refl _ _⟩
      · by_cases ha4 : 16 < m
        · have HR : Hid (encE L m = 2) := ⟨by unfold encE; rw [if_pos (.inr (by omega))]⟩
          go_enter Try.func12, Try.ntmps12
          go_wp2_with fail
          go_ret2
          exact ⟨_, _, _, _, rfl, ⟨HR.out.symm, fun _ => rfl, fun h => by simp at h⟩, Below.refl _ _⟩
        · have HR0 : Hid (encE L m = if frm L then 4 else 0) := ⟨by unfold encE; rw [Hn.out, if_neg (by omega)]⟩
          obtain ⟨m', Hm'⟩ : ∃ m' : Nat, m = m' := ⟨m.toNat, by omega⟩
          subst Hm'
          rw [Int.toNat_natCast]
          obtain ⟨w1, Hw1⟩ : ∃ y, Hid (w.alloc (.cells #[] 33) = y) := ⟨_, ⟨rfl⟩⟩
          have HB1 : Hid (Below w.heap.size w w1) := ⟨by rw [← Hw1.out]; exact (Below.refl _ w).alloc (Nat.le_refl _) _⟩
          have HO1 : Hid (OwnR w1 (0, 5) w.heap.size (.slice (some ⟨w.heap.size, 0, none⟩) 0 0) (cpy (L.take 0))) := ⟨by rw [← Hw1.out]; exact OwnR.none w (0, 5)⟩
          go_enter Try.func12, Try.ntmps12
          go_upto_region 5 with fail
          rw [Hw1.out]
          go_loopg [6, 7] n (fun gg s6 s7 wr => ∃ i : Nat, i ≤ n ∧ n - i ≤ gg ∧ s7 = .int .i64 (i : Int) ∧ Hid (OwnR wr (0, 5) w.heap.size s6 (cpy (L.take i))) ∧ Hid (Below w.heap.size w wr))
          case atStart => exact ⟨0, Nat.zero_le _, by omega, rfl, HO1, HB1⟩
          case round =>
            clear HO1 HB1
            obtain ⟨i, hi, hgg, rfl, HO, HB⟩ := hrel
            rename World => wo
            obtain ⟨oa, oc, e6, _⟩ := HO.out.rd.shape
            subst e6
            obtain ⟨on, Hon⟩ : ∃ r, Hid ((cpy (L.take i)).length = r) := ⟨_, ⟨rfl⟩⟩
            have Hon2 : Hid (on = i) := ⟨by rw [← Hon.out, cpy_len, List.length_take, Hn.out]; omega⟩
            rw [Hon.out] at HO ⊢
            by_cases hlt : i < n
            · have hltz : (i : Int) < (n : Int) := by omega
              have hiL : i < L.length := by rw [Hn.out]; exact hlt
              obtain ⟨w2, Hw2⟩ : ∃ y, Hid (wo.alloc (.cells #[] 5) = y) := ⟨_, ⟨rfl⟩⟩
              have HB2 : Hid (Below wo.heap.size wo w2) := ⟨by rw [← Hw2.out]; exact (Below.refl _ wo).alloc (Nat.le_refl _) _⟩
              have HO2 : Hid (OwnG w2 wo.heap.size (.slice (some ⟨wo.heap.size, 0, none⟩) 0 0) []) := ⟨by rw [← Hw2.out]; exact owny_none wo⟩
              have HB02 : Hid (Below w.heap.size w w2) := ⟨HB.out.trans (HB2.out.mono HB.out.size)⟩
              obtain ⟨b, off, cap, e, _, hc⟩ := (HV.out.below HB02.out).at hiL
              rw [Hn.out] at e
              simp only [Value.slice.injEq] at e
              obtain ⟨rfl, -, rfl⟩ := e
              obtain ⟨sa, sc, c1, _, _, _, hs⟩ := hc i hiL
              have HS := Hid.mk hs.rd
              have h4 := H4.out i hiL
              have hlen : ([] : List G).length + (sl (L.getD i none)).length ≤ 1000000000000 := by rw [List.length_nil]; omega
              have hb2 := HB2.out.size
              have HX : Hid (cpy (L.take (i + 1)) = cpy (L.take i) ++ [some (sl (L.getD i none))]) := ⟨by
                rw [List.take_succ_eq_append_getElem hiL]
                simp only [cpy, List.map_append, List.map_cons, List.map_nil]
                congr 4
                simp [List.getD, List.getElem?_eq_getElem hiL]⟩
              have HOw2 : Hid (OwnR w2 (0, 5) w.heap.size (.slice oa on oc) (cpy (L.take i))) := ⟨HO.out.below HB2.out⟩
              obtain ⟨r, Hr⟩ : ∃ r, Hid (sl (L.getD i none) = r) := ⟨_, ⟨rfl⟩⟩
              rw [Hr.out] at c1 HS hlen HX h4
              obtain ⟨rn, Hrn⟩ : ∃ r', Hid (r.length = r') := ⟨_, ⟨rfl⟩⟩
              rw [Hrn.out] at c1 HS
              have hbw : b < wo.heap.size := by
                obtain ⟨b', off', cap', e, _, hc'⟩ := (HV.out.below HB.out).at hiL
                rw [Hn.out] at e
                simp only [Value.slice.injEq, Option.some.injEq, Addr.mk.injEq, and_true] at e
                obtain ⟨⟨rfl, rfl⟩, -, -⟩ := e
                obtain ⟨_, _, c1', _⟩ := hc' i hiL
                exact World.block_lt_of_cell? _ _ c1'
              have c1o : wo.cell? ⟨b, off + i, none⟩ = some (.slice sa rn sc) := (HB2.out.cell (p := ⟨b, off + i, none⟩) hbw).symm.trans c1
              have hlR : (cpy (L.take i)).length ≤ 1000000000000 := by rw [Hon.out, Hon2.out]; omega
              clear hc hs
              have HK7 : Hid (∀ a7 n7 c7 w7, OwnG w7 wo.heap.size (.slice a7 n7 c7) ([] ++ r) → Chg (ob (.slice (some ⟨wo.heap.size, 0, none⟩) 0 0)) w2 w7 → ((Value.slice a7 n7 c7).ownBlock = (Value.slice (some ⟨wo.heap.size, 0, none⟩) 0 0).ownBlock ∨ (Value.slice a7 n7 c7).ownBlock = some w2.heap.size) → OwnR w7 (0, 5) w.heap.size (.slice oa on oc) (cpy (L.take i)) ∧ RdS w7 (0, 5) (.slice a7 n7 c7) (some r) ∧ Below w.heap.size w w7 ∧ w.heap.size ≤ w7.heap.size) := ⟨fun a7 n7 c7 w7 hO hG hV => by
                have hB7 : Below wo.heap.size wo w7 := HB2.out.trans (hG.below HB2.out.size (fun k hk => by simp [ob, Value.ownBlock] at hk; omega))
                have hB07 : Below w.heap.size w w7 := HB.out.trans (hB7.mono HB.out.size)
                refine ⟨HO.out.below hB7, ?_, hB07, hB07.size⟩
                rw [List.nil_append] at hO
                refine hO.sd rfl ?_
                cases a7 with
                | none => rcases hV with h | h <;> simp [Value.ownBlock] at h
                | some ad => exact ⟨_, _, _, rfl⟩⟩
              go_wp2_with (first
                | (rw [Hw2.out]; refine wp_appG rfl (.tmp 33) (.tmp 37) rfl rfl HO2.out rfl HS.out hlen hb2 ?_; intro v7 w7 hO7 hG7 hV7; obtain ⟨a7, c7, e7, _⟩ := hO7.rd.shape; subst e7; obtain ⟨n7, Hn7⟩ : ∃ n7, Hid (([] ++ r).length = n7) := ⟨_, ⟨rfl⟩⟩; rw [Hn7.out] at hO7 hV7 ⊢; obtain ⟨hR7, hS7, hB7, hz7⟩ := HK7.out a7 n7 c7 w7 hO7 hG7 hV7; have HR7 := Hid.mk hR7; have HS7 := Hid.mk hS7; have HB7 := Hid.mk hB7; clear hO7 hG7 hV7 hR7 hS7 hB7)
                | (refine wp_appR1 rfl (.tmp 32) (.tmp 39) rfl rfl HR7.out (Nat.zero_le _) (show (5 : TypeId) ≠ 33 by decide) HS7.out rfl hlR hz7 ?_; intro v8 w8 hO8 hG8 hV8))
              have HO8 : Hid (OwnR w8 (0, 5) w.heap.size v8 (cpy (L.take (i + 1)))) := ⟨by rw [HX.out]; exact hO8⟩
              have HB8 : Hid (Below w.heap.size w w8) := ⟨HB7.out.trans (hG8.below HB7.out.size (fun x hx => (HR7.out.lt x hx).1))⟩
              clear hO8 hG8 hV8
              go_roundg (n - (i + 1))
              case measure => omega
              case rel => exact ⟨i + 1, by omega, by omega, by go_num, HO8, HB8⟩
            · obtain rfl : n = i := by omega
              rw [show L.take n = L from List.take_of_length_le (by rw [Hn.out]; exact Nat.le_refl _)] at HO Hon
              have t1 := rwrong26 (w := wo) _ (cpy L) HO.out.rd (by rw [cpy_len, Hn.out]; exact hl) (fun i hi => by rw [cpy_sl]; exact H4.out i (by rw [← cpy_len]; exact hi))
              have hcl : (cpy L).length = n := by rw [cpy_len, Hn.out]
              have HCl := Hid.mk hcl
              have HoO := Hid.mk (HO.out.rd)
              rw [hcl] at Hon
              have hon : on = n := Hon.out.symm
              subst hon
              clear hcl
              go_wp2_with fail
              refine t1.mono ?_
              rintro e w1' ⟨z, rfl, hz, hb1⟩
              have HB1 : Hid (Below w.heap.size w w1') := ⟨HB.out.trans (hb1.mono HB.out.size)⟩
              have HC1 := Hid.mk hb1
              have HZ := Hid.mk hz
              clear t1 hz hb1
              rcases HZ.out with ⟨rfl, hw⟩ | ⟨rfl, hw⟩
              · have HR : Hid (encE L (m' : Int) = 4) := ⟨by
                  have := (wr_frm (cpy L)).1 hw
                  rw [cpy_left, cpy_frm] at this
                  rw [HR0.out, if_pos this]⟩
                clear HZ hw
                go_wp2_with fail
                go_ret2
                exact ⟨_, _, _, _, rfl, ⟨HR.out.symm, fun _ => rfl, fun h => by simp at h⟩, HB1.out⟩
              · have Hfr : Hid (frm L = false) := ⟨by
                  cases hf : frm L with
                  | false => rfl
                  | true => exact absurd ((wr_frm (cpy L)).2 (by rw [cpy_left, cpy_frm]; exact hf)) hw⟩
                have HR : Hid (encE L (m' : Int) = 0) := ⟨by rw [HR0.out, Hfr.out, if_neg (by decide)]⟩
                clear HZ hw HR0
                have t2 := rgroup27 (w := w1') _ (cpy L) (on : Int) (on + m') (rowN L) (HoO.out.below HC1.out) (by rw [HCl.out]; omega) (by omega)
                rw [← Hn.out, cpy_lfR, cpy_lfP, Hn.out] at t2
                have t3 := t2 (by rw [HCl.out]; omega) (fun j hj => by rw [cpy_sl]; exact frm_len Hfr.out (by rw [← cpy_len]; exact hj)) (H4.out 0 (by rw [Hn.out]; omega))
                have HM : Hid (((List.range (on + m')).map (fun j => some (grp (pls on) (cpy L) (rowN L) (gn j)))).drop on = (List.range m').map (encS L)) := ⟨by
                  apply List.ext_getElem
                  · simp
                  · intro j h1 h2
                    simp only [List.getElem_drop, List.getElem_map, List.getElem_range, encS, Hn.out, cpy_grp]⟩
                have hsum : IntKind.i64.wrap ((on : Int) + m') = (on : Int) + m' := IntWalk.i64_in _ ⟨by omega, by omega⟩
                have hnm : ((on + m' : Nat) : Int) = (on : Int) + m' := by omega
                rw [hnm] at t3
                clear t2 hnm
                go_wp2_with fail
                refine t3.mono ?_
                rintro e w2 ⟨a2, n2, c2, rfl, hO2, hB2⟩
                have HO2 := Hid.mk hO2
                have HB2 : Hid (Below w.heap.size w w2) := ⟨HB1.out.trans (hB2.mono HB1.out.size)⟩
                obtain ⟨g, off, cap, e2, hcap, _⟩ := hO2.rd.at (i := 0) (by simp; omega)
                rw [List.length_map, List.length_range] at e2 hcap
                simp only [Value.slice.injEq] at e2
                obtain ⟨rfl, rfl, rfl⟩ := e2
                have hcm : c2 ≤ 9223372036854775807 := by
                  obtain ⟨_, _, e3, _, h5, _⟩ := hO2.rd.shape
                  simp only [Value.slice.injEq] at e3
                  rw [e3.2.2]; exact h5
                clear t3 hO2 hB2
                go_wp2_with fail
                · go_ret2
                  have hm0 : m' = 0 := by omega
                  refine ⟨_, _, _, _, rfl, ⟨HR.out.symm, fun h => absurd rfl h, fun _ => ?_⟩, HB2.out⟩
                  rw [hm0]
                  exact rdR_empty _ _ _
                · go_ret2
                  refine ⟨_, _, _, _, rfl, ⟨HR.out.symm, fun h => absurd rfl h, fun _ => ?_⟩, HB2.out⟩
                  rw [← HM.out]
                  have h6 := rdR_drop HO2.out.rd.old on (by omega)
                  rw [show on + m' - on = m' by omega] at h6
                  exact h6
end
end Go.Proofs.Ytbdmbhpmbklaiaa
