/- Contract of the document's Sum. -/
import Derived.Test.YthfikoghbnicoabDoorE2
import Derived.BigQuiet
namespace Go.Proofs.YthfikoghbnicoabDoor
open Go.RowKit
attribute [local go_sem ↓] Go.wp_at_zero Go.wp_at_succ

theorem readyH_plain {P : Program} {md : Region.Mode} {ops : Array Oper} {Q : Exit → Act → World → Prop} {S : World → Prop} {fuel : Nat} {listed : Array Bool} {a : Act} {w : World} {i : Nat} {o : Oper} {rs : List Nat} (ho : ops[i]? = some o) (hg : o.guard = none)
    (h : ∀ K' : Act → World → Prop, (∀ a w, S w → (S w → wpAnyH P md ops Q S fuel (listed.setIfInBounds i true) a w) → K' a w) → Oper.wp P o a w K' Q)
    (hs : AllReadyH P md ops Q S fuel listed a w rs) : AllReadyH P md ops Q S fuel listed a w (i :: rs) :=
  AllReadyH.cons ho (fun K' hK => by
    have hw : Region.wanted o (yielded ops a.tmps) = true := by unfold Region.wanted; rw [hg]
    rw [if_pos hw]; exact h K' hK.out) hs
theorem wp_val {P : Program} {op : Oper} {a : Act} {w w' : World} {v : Value} {K : Act → World → Prop} {Q : Exit → Act → World → Prop} (hr : (execOp a.eval op).run P w = .ok (.value v) w') (h : K (a.put op.dst v) w') : op.wp P a w K Q := by
  unfold Oper.wp; rw [hr]; exact h

theorem right_r (x n : Int) (w : World) (h1 : 1 ≤ n) (h2 : n ≤ 31) : Calls Tryd.prog 22 #[.int .u32 x, .int .u32 n] w fun e w' => e = .returned (.int .u32 (rr x n.toNat)) ∧ w' = w :=
  (right_q x n w h1 h2).mono fun _ _ ⟨a, b⟩ => ⟨a, b.symm⟩
theorem wp_load1 {op : Oper} {a : Act} {w : World} {K : Act → World → Prop} {Q : Exit → Act → World → Prop} (x : Operand) {g j : Nat} {y : Int} (ho : op.op = .load 35 x) (hx : a.eval x = .pointer (some ⟨g, j, none⟩)) (hc : w.cell? ⟨g, j, none⟩ = some (.int .u32 y)) (h : K (a.put op.dst (.int .u32 y)) w) : op.wp Tryd.prog a w K Q := by
  obtain ⟨dst, o, ty, pos, after, guard⟩ := op
  simp only at ho
  subst ho
  refine wp_val (v := .int .u32 y) (w' := w) ?_ h
  simp only [execOp, hx]
  go_simp
theorem ready_load1 {md : Region.Mode} {ops : Array Oper} {Q : Exit → Act → World → Prop} {fuel : Nat} {listed : Array Bool} {a : Act} {w : World} {i : Nat} {o : Oper} {rs : List Nat} (ho : ops[i]? = some o) (hg : o.guard = none) (x : Operand) {g j : Nat} {y : Int} (hop : o.op = .load 35 x) (hx : a.eval x = .pointer (some ⟨g, j, none⟩)) (hc : w.cell? ⟨g, j, none⟩ = some (.int .u32 y))
    (h : wpAny Tryd.prog md ops Q fuel (listed.setIfInBounds i true) (a.put o.dst (.int .u32 y)) w) (hs : AllReady Tryd.prog md ops Q fuel listed a w rs) : AllReady Tryd.prog md ops Q fuel listed a w (i :: rs) :=
  ready_plain ho hg (fun _ hK => wp_load1 x hop hx hc (hK _ _ h)) hs
theorem cell_lit (w : World) (cs : Array Value) (t : TypeId) (j : Nat) (u : Value) (h : cs[j]? = some u) : (w.alloc (.cells cs t)).cell? ((⟨w.heap.size, 0, none⟩ : Addr).add j) = some u := by
  rw [add_plain, cell_of_row _ _ _ cs t (0, 0) (heap_alloc_new w _), Nat.zero_add, h]
theorem getD_rng (M : List Int) (h : ∀ x ∈ M, 0 ≤ x ∧ x < 256) (j : Nat) : ∃ b : Nat, b < 256 ∧ M.getD j 0 = (b : Int) := by
  rw [List.getD_eq_getElem?_getD]
  rcases h' : M[j]? with _ | y
  · exact ⟨0, by decide, rfl⟩
  · have := h y (List.mem_of_getElem? h')
    exact ⟨y.toNat, by omega, by show y = _; omega⟩

theorem wpl_appW {ops : Array Oper} {rest : List Oper} {o : Oper} {a : Act} {w : World} {Q : Exit → Act → World → Prop} (hg : o.guard = none) (s x : Operand)
    (ho : o.op = .call { callee := .builtin .append, args := #[s, x], argTypes := #[44, 44] })
    {base : Nat} {v : Value} {xs ys : List Int} (hs : a.eval s = v) (hown : OwnW w base v xs) (ad : Addr) (m c : Nat) (hx : a.eval x = .slice (some ad) m c) (hm : ys.length = m)
    (hc : ∀ j, j < m → w.cell? (ad.add j) = some (.int .u32 (ys.getD j 0))) (hlen : xs.length + m ≤ 1000) (hbase : base ≤ w.heap.size)
    (h : ∀ v' w', OwnW w' base v' (xs ++ ys) → Below base w w' → wpList Tryd.prog ops Q rest (a.put o.dst v') w') : wpList Tryd.prog ops Q (o :: rest) a w :=
  wpList_plain hg fun _ hK => wp_appW s x ho hs hown ad m c hx hm hc hlen hbase (fun v' w' h1 h2 => hK _ _ (h v' w' h1 h2))
theorem build24 (a : Act) (w : World) (d : Nat) (ps : String) : (execOp a.eval { dst := some d, op := Op.build 24 #[], type := 24, pos := ps, after := #[], guard := none }).run Tryd.prog w = .ok (.value (.agg (arr .u8 32 (fun _ => 0)))) w := by kernel_rfl
theorem grown_arr {w w' : World} {g r : Nat} {t : TypeId} {k : IntKind} {n : Nat} {f : Nat → Int} (h : Arr w g t k n f) (hg : w.grownBy w' (some r)) (hne : g ≠ r) : Arr w' g t k n f :=
  (show w'.heap[g]? = w.heap[g]? from hg.block g (Array.getElem?_eq_some_iff.1 h).1 (by simp; exact hne)).trans h

theorem outB_0 (s : Nat → Int) (q : Nat) : outB s (4 * q) = s q / 16777216 % 256 := by unfold outB; rw [show 4 * q / 4 = q by omega, show 4 * q % 4 = 0 by omega]; rfl
theorem outB_1 (s : Nat → Int) (q : Nat) : outB s (4 * q + 1) = s q / 65536 % 256 := by unfold outB; rw [show (4 * q + 1) / 4 = q by omega, show (4 * q + 1) % 4 = 1 by omega]; rfl
theorem outB_2 (s : Nat → Int) (q : Nat) : outB s (4 * q + 2) = s q / 256 % 256 := by unfold outB; rw [show (4 * q + 2) / 4 = q by omega, show (4 * q + 2) % 4 = 2 by omega]; rfl
theorem outB_3 (s : Nat → Int) (q : Nat) : outB s (4 * q + 3) = s q % 256 := by unfold outB; rw [show (4 * q + 3) / 4 = q by omega, show (4 * q + 3) % 4 = 3 by omega]; simp
theorem upd4 (F : Nat → Int) (q : Nat) (a b c d : Int) (h0 : F (4 * q) = a) (h1 : F (4 * q + 1) = b) (h2 : F (4 * q + 2) = c) (h3 : F (4 * q + 3) = d) :
    upd (upd (upd (upd (fun j => if j < 4 * q then F j else 0) (4 * q) a) (4 * q + 1) b) (4 * q + 2) c) (4 * q + 3) d = fun j => if j < 4 * (q + 1) then F j else 0 := by
  funext j
  unfold upd
  by_cases e3 : j = 4 * q + 3
  · rw [if_pos e3, if_pos (by omega), e3, h3]
  · rw [if_neg e3]
    by_cases e2 : j = 4 * q + 2
    · rw [if_pos e2, if_pos (by omega), e2, h2]
    · rw [if_neg e2]
      by_cases e1 : j = 4 * q + 1
      · rw [if_pos e1, if_pos (by omega), e1, h1]
      · rw [if_neg e1]
        by_cases e0 : j = 4 * q
        · rw [if_pos e0, if_pos (by omega), e0, h0]
        · rw [if_neg e0]
          show (if j < 4 * q then F j else 0) = _
          by_cases hl : j < 4 * q
          · rw [if_pos hl, if_pos (by omega)]
          · rw [if_neg hl, if_neg (by omega)]
theorem t1_sum (e f g h kt wt : Int) : t1S e f g h kt wt = (h + bits .xor .u32 (bits .xor .u32 (rr e 6) (rr e 11)) (rr e 25) + bits .xor .u32 (bits .and .u32 e f) (bits .and .u32 (bits .xor .u32 IntKind.u32.max e) g) + kt + wt) % 4294967296 := by
  unfold t1S tur chS
  generalize bits .xor .u32 (bits .xor .u32 (rr e 6) (rr e 11)) (rr e 25) = x
  generalize bits .xor .u32 (bits .and .u32 e f) (bits .and .u32 (bits .xor .u32 IntKind.u32.max e) g) = y
  simp only [IntKind.wrap_u32']
  omega
theorem t2_sum (a b c : Int) : t2S a b c = (bits .xor .u32 (bits .xor .u32 (rr a 2) (rr a 13)) (rr a 22) + bits .xor .u32 (bits .xor .u32 (bits .and .u32 a b) (bits .and .u32 a c)) (bits .and .u32 b c)) % 4294967296 := by
  unfold t2S tur majS
  simp only [IntKind.wrap_u32']

/-- The first t words. -/
def wl (W : Nat → Int) (t : Nat) : List Int := (List.range t).map W
theorem wl_length (W : Nat → Int) (t : Nat) : (wl W t).length = t := by simp [wl]
theorem wl_getD (W : Nat → Int) (t j : Nat) (h : j < t) : (wl W t).getD j 0 = W j := by simp [wl, h]
theorem wl_succ (W : Nat → Int) (t : Nat) : wl W (t + 1) = wl W t ++ [W t] := by simp [wl, List.range_succ]

theorem mlen (bs : List Int) : ∃ NB, (bs ++ padB bs.length).length = 64 * NB ∧ 0 < NB := by
  rw [List.length_append, padB_length]
  unfold zer
  exact ⟨(bs.length + (1 + (63 - (bs.length % 64 + 8) % 64) + 8)) / 64, by omega, by omega⟩

def RSt : Prop := ∀ (v : Value) (bs : List Int) (w : World) (_ : Bs w v bs) (_ : bs.length ≤ 140737488351232) (_ : ∀ x ∈ bs, 0 ≤ x ∧ x < 256), Calls Tryd.prog 11 #[v] w fun e w' => e = .returned (.agg (arr .u8 32 (outB (shaS KL SL bs)))) ∧ Below w.heap.size w w'
/-- A part, set aside. -/
structure Prt (p : Prop) : Prop where
  out : p
/-- The walk, and the parts that it leaves. -/
structure RParts where
  P1 : Prop
  P2 : Prop
  P3 : Prop
  P4 : Prop
  P5 : Prop
  all : Prt P1 → Prt P2 → Prt P3 → Prt P4 → Prt P5 → RSt

set_option maxHeartbeats 40000000 in
set_option maxRecDepth 100000 in
def rskel : RParts := by
  apply RParts.mk
  case all =>
    intro hp1 hp2 hp3 hp4 hp5 v bs w hv hl hby
    have HV : Hid (Bs w v bs) := hv
    have HL : Hid (bs.length ≤ 140737488351232) := hl
    obtain ⟨M, HM⟩ : ∃ M : List Int, Hid (M = bs ++ padB bs.length) := ⟨bs ++ padB bs.length, Eq.refl (bs ++ padB bs.length)⟩
    obtain ⟨NB, HNB, hNB0⟩ := mlen bs
    rw [← HM.out] at HNB
    obtain ⟨L, hML⟩ : ∃ L, M.length = L := ⟨_, rfl⟩
    have hL2 : L ≤ 140737488355328 := by
      rw [← hML, HM.out, List.length_append, padB_length]
      unfold zer
      omega
    have hLN : L = 64 * NB := by rw [← hML, HNB]
    have HMB : Hid (∀ x ∈ M, 0 ≤ x ∧ x < 256) := by
      show ∀ x ∈ M, _
      rw [HM.out]
      intro x hx
      rcases List.mem_append.1 hx with h | h
      · exact hby x h
      · exact padB_byte _ x h
    have HSH : Hid (shaS KL SL bs = chain KL SL M NB) := by
      show _ = _
      rw [shaS_chain, ← HM.out, hML, hLN, Nat.mul_div_cancel_left _ (by decide)]
    obtain ⟨F, HF⟩ : ∃ F, Hid (F = outB (shaS KL SL bs)) := ⟨_, rfl⟩
    rw [← HF.out]
    have HLN : Hid (L = 64 * NB) := hLN
    clear hv hl hby HNB hLN
    obtain ⟨wA, hwA⟩ : ∃ wA, wA = w.alloc (.cells (arr .u8 32 (fun _ => 0)) 24) := ⟨_, rfl⟩
    have hbA : Below w.heap.size w wA := by rw [hwA]; exact (Below.refl _ w).alloc (Nat.le_refl _) _
    have hsA : wA.heap.size = w.heap.size + 1 := by rw [hwA]; simp
    have hAA : Arr wA w.heap.size 24 .u8 32 (fun _ => 0) := by rw [hwA]; exact Arr.new _ _ _ _ _
    obtain ⟨wB, hwB⟩ : ∃ wB, wB = wA.alloc (.cells (arr .u32 8 SL) 35) := ⟨_, rfl⟩
    have hbB : Below wA.heap.size wA wB := by rw [hwB]; exact (Below.refl _ wA).alloc (Nat.le_refl _) _
    have hsB : wB.heap.size = w.heap.size + 1 + 1 := by rw [hwB]; simp [hsA]
    have hSB : Arr wB (w.heap.size + 1) 35 .u32 8 SL := by rw [hwB, ← hsA]; exact Arr.new _ _ _ _ _
    obtain ⟨wC, hwC⟩ : ∃ wC, wC = wB.alloc (.cells (arr .u32 64 KL) 35) := ⟨_, rfl⟩
    have hbC : Below wB.heap.size wB wC := by rw [hwC]; exact (Below.refl _ wB).alloc (Nat.le_refl _) _
    have hsC : wC.heap.size = w.heap.size + 1 + 1 + 1 := by rw [hwC]; simp [hsB]
    have hKC : Arr wC (w.heap.size + 1 + 1) 35 .u32 64 KL := by rw [hwC, ← hsB]; exact Arr.new _ _ _ _ _
    go_enter Tryd.func11, Tryd.ntmps11
    go_wp2_with (first
      | (refine wpList_val rfl (alloc24 _ w 2 "ref.go:36") ?_; rw [← hwA]; clear hwA)
      | (go_at_call 20; go_loud (change Calls Tryd.prog 20 #[] (wA.alloc (.cells (arr .u32 8 SL) 35)) _; rw [← hwB]; refine (K_any wB).mono ?_; rw [← hwC]; clear hwB hwC; rintro e w1 ⟨rfl, rfl⟩))
      | (go_at_call 21; refine (padded_any v bs _ (((Bs.below HV.out hbA).below hbB).below hbC) HL.out).mono ?_; rintro e w0 ⟨xm, rfl, hM0, hb0⟩))
    rw [← HM.out] at hM0
    obtain ⟨gm, capm, hxm, hgm, hgl, hgc, _⟩ : ∃ g cap, xm = .slice (some ⟨g, 0, none⟩) M.length cap ∧ w1.heap.size ≤ g ∧ M.length ≤ cap ∧ cap ≤ maxLen ∧ True := by
      obtain ⟨g, cap, h1, h2, h3, h4⟩ := own_shape hM0 (by intro e; rw [e] at hML; have := HLN.out; rw [List.length_nil] at hML; omega)
      exact ⟨g, cap, h1, h2, h3, h4, trivial⟩
    rw [hML] at hxm hgl
    subst hxm
    unfold maxLen at hgc
    have hO0 : Arr w0 w.heap.size 24 .u8 32 (fun _ => 0) := ((hAA.below hbB).below hbC).below hb0
    have hS0 : Arr w0 (w.heap.size + 1) 35 .u32 8 SL := (hSB.below hbC).below hb0
    have hK0 : Arr w0 (w.heap.size + 1 + 1) 35 .u32 64 KL := hKC.below hb0
    have hb00 : Below w.heap.size w w0 := ((hbA.trans (hbB.mono (by omega))).trans (hbC.mono (by omega))).trans (hb0.mono (by omega))
    have HC0 : Hid (∀ j, j < L → w0.cell? ⟨gm, j, none⟩ = some (.int .u8 (M.getD j 0))) := fun j hj => hM0.cellAt j (by omega)
    have hszw0 : w.heap.size + 1 + 1 + 1 ≤ w0.heap.size := by have := hb0.size; omega
    obtain ⟨gs, Hgs⟩ : ∃ gs, Hid (gs = w.heap.size + 1) := ⟨_, rfl⟩
    obtain ⟨gk, Hgk⟩ : ∃ gk, Hid (gk = w.heap.size + 1 + 1) := ⟨_, rfl⟩
    try simp only [hsB, hsA] at hK0
    try simp only [hsB, hsA] at hS0
    try simp only [hsB, hsA] at hO0
    try simp only [hsB, hsA] at hb0
    try simp only [hsB, hsA] at hgm
    try simp only [hsB, hsA]
    rw [← Hgk.out] at hK0 ⊢
    rw [← Hgs.out] at hS0 ⊢
    have hgs1 : w.heap.size < gs := by rw [Hgs.out]; omega
    have hgs2 : gs < w0.heap.size := by rw [Hgs.out]; omega
    have hgk1 : gk ≠ gs := by rw [Hgs.out, Hgk.out]; omega
    have hgk2 : gk < w0.heap.size := by rw [Hgk.out]; omega
    have hgm1 : gm ≠ gs := by rw [Hgs.out]; omega
    have HK0 : Hid (Arr w0 gk 35 .u32 64 KL) := hK0
    have HO0 : Hid (Arr w0 w.heap.size 24 .u8 32 (fun _ => 0)) := hO0
    clear hbA hbB hbC hsA hsB hsC hAA hSB hKC hM0 hb0 hK0 hO0 HV HL HM hgm
    obtain ⟨wr0, hwr0⟩ : ∃ wr0 : World, wr0 = w0 := ⟨_, rfl⟩
    clear hwr0
    go_loopw [6] (fun i wr => ∃ n A : Nat, n ≤ NB ∧ A = 64 * n ∧ i = .int .i64 (A : Int) ∧ Arr wr gs 35 .u32 8 (chain KL SL M n) ∧ w0.grownBy wr (some gs)) (fun i _ => L - (intOf i).toNat)
    case atStart => exact ⟨0, 0, Nat.zero_le _, rfl, rfl, hS0, grown_of_below (Below.refl _ _)⟩
    case round =>
      clear hS0
      obtain ⟨n, A, hn, hA, rfl, hS, hgr⟩ := hrel
      rename World => wo
      by_cases hnN : n < NB
      · obtain ⟨W, HW⟩ : ∃ W, Hid (W = ext (wrd (fun j => M.getD (64 * n + j) 0) 64) 48) := ⟨_, rfl⟩
        have hAL : A + 64 ≤ L := by have := HLN.out; omega
        have hALn : A < L := by omega
        have hALi : (A : Int) < (L : Int) := by omega
        obtain ⟨s, Hs⟩ : ∃ s, Hid (s = chain KL SL M n) := ⟨_, rfl⟩
        rw [← Hs.out] at hS
        have HCr : Hid (∀ j, j < L → wo.cell? ⟨gm, j, none⟩ = some (.int .u8 (M.getD j 0))) := fun j hj => hgr.cell (HC0.out j hj) (by simp; exact hgm1)
        have HKr : Hid (Arr wo gk 35 .u32 64 KL) := (show wo.heap[gk]? = _ from hgr.block gk hgk2 (by simp; exact hgk1)).trans HK0.out
        have HSr : Hid (Arr wo gs 35 .u32 8 s) := hS
        have HGR : Hid (w0.grownBy wo (some gs)) := hgr
        have HA : Hid (A = 64 * n) := hA
        have hszr : w0.heap.size ≤ wo.heap.size := hgr.size
        have hgmr : gm < wo.heap.size := World.block_lt_of_cell? _ _ (HCr.out 0 (by omega))
        clear hS hgr hA
        have hown0 : OwnW (wo.alloc (.cells #[] 35)) wo.heap.size (.slice (some ⟨wo.heap.size, 0, none⟩) 0 0) (wl W 0) := ownW_lit wo wo.heap.size [] #[] rfl (Nat.le_refl _) (by decide)
        have hbr0 : Below wo.heap.size wo (wo.alloc (.cells #[] 35)) := (Below.refl _ wo).alloc (Nat.le_refl _) _
        go_wp2
        generalize wo.alloc (.cells #[] 35) = w2 at hown0 hbr0 ⊢
        go_loopw [7, 8] (fun x i w2 => ∃ t : Nat, t ≤ 64 ∧ i = .int .i64 t ∧ OwnW w2 wo.heap.size x (wl W t) ∧ Below wo.heap.size wo w2) (fun _ i _ => 64 - (intOf i).toNat)
        case atStart => exact ⟨0, Nat.zero_le _, rfl, hown0, hbr0⟩
        case round =>
          clear hown0 hbr0
          obtain ⟨t, ht, rfl, hx, hb3⟩ := hrel
          rename World => wi
          by_cases ht16 : t < 16
          · rename_i ina16 ina19 ina20 ina25 ina42 ina44 ina45 ina46 ina61 ina62 ina63 ina64 ina65 ina66 ina67 ina68 ina69 ina70 ina71 ina72 ina73 ina74 ina75 ina76 ina77 ina78 ina79 ina80 ina81 ina82 ina83 ina84 ina85 ina86 ina87 ina88 ina89 ina90 ina91 ina92 ina93 ina94 ina95 ina96 ina97 ina98 ina99 ina100 ina101 ina102 ina103 ina104 ina105 ina106 ina107 ina108 ina109 ina110 ina111 ina112 ina113 ina114 ina115 ina116 ina117 ina118 ina119 ina120 ina121 ina122 ina123 ina124 ina125 ina126 ina127 ina128 ina129 ina130 ina131 ina132 ina133 ina134 ina135 ina136 ina137 ina138 ina139 ina140 ina141 ina142 ina143 ina144 ina145 ina146 ina147 ina148 ina149 ina150 ina151 ina152 ina153 ina154 ina155 ina156 ina157 ina158 ina159 ina160 ina298 ina299 ina300 ina301 ina302; revert v bs w M NB hNB0 L hML hL2 HMB HSH F HF HLN wA wB ina16 w1 w0 ina19 ina20 gm capm hgl hgc ina25 hb00 HC0 hszw0 gs Hgs gk Hgk hgs1 hgs2 hgk1 hgk2 hgm1 HK0 HO0 wr0 wo ina42 u8 ina44 ina45 ina46 u12 u13 u14 u15 u16 u17 u18 u25 u26 u27 u28 u29 u30 u31 ina61 ina62 ina63 ina64 ina65 ina66 ina67 ina68 ina69 ina70 ina71 ina72 ina73 ina74 ina75 ina76 ina77 ina78 ina79 ina80 ina81 ina82 ina83 ina84 ina85 ina86 ina87 ina88 ina89 ina90 ina91 ina92 ina93 ina94 ina95 ina96 ina97 ina98 ina99 ina100 ina101 ina102 ina103 ina104 ina105 ina106 ina107 ina108 ina109 ina110 ina111 ina112 ina113 ina114 ina115 ina116 ina117 ina118 ina119 ina120 ina121 ina122 ina123 ina124 ina125 ina126 ina127 ina128 ina129 ina130 ina131 ina132 ina133 ina134 ina135 ina136 ina137 ina138 ina139 ina140 ina141 ina142 ina143 ina144 ina145 ina146 ina147 ina148 ina149 ina150 ina151 ina152 ina153 ina154 ina155 ina156 ina157 ina158 ina159 ina160 u132 u133 u134 u135 u136 u137 u138 u139 u140 u141 u142 u143 u144 u145 u146 u147 u148 u149 u150 u151 u152 u153 u154 u155 u156 u157 u158 u159 u160 u161 u162 u163 u164 u165 u166 u167 u168 u169 u170 u171 u172 u173 u174 u175 u176 u177 u178 u179 u180 u181 u182 u183 u184 u185 u186 u187 u188 u189 u190 u191 u192 u193 u194 u195 u196 u197 u198 u199 u200 u201 u202 u203 u204 u205 u206 u207 u208 u209 u210 u211 u212 u213 u214 u215 u216 u217 u218 u219 u220 u221 u222 u223 u224 u225 u226 u227 u228 u229 u230 u231 u232 u233 u234 u235 u236 u237 u238 u239 u240 u241 u242 u243 u244 u245 u246 u247 u248 u249 u250 n A hn hnN W HW hAL hALn hALi s Hs HCr HKr HSr HGR HA hszr hgmr ina298 ina299 ina300 ina301 ina302 w2 wi u7 u9 u10 u11 u32 u33 u34 u35 u36 u37 u38 u39 u40 u41 u42 u43 u44 u45 u46 u47 u48 u49 u50 u51 u52 u53 u54 u55 u56 u57 u58 u59 u60 u61 u62 u63 u64 u65 u66 u67 u68 u69 u70 u71 u72 u73 u74 u75 u76 u77 u78 u79 u80 u81 u82 u83 u84 u85 u86 u87 u88 u89 u90 u91 u92 u93 u94 u95 u96 u97 u98 u99 u100 u101 u102 u103 u104 u105 u106 u107 u108 u109 u110 u111 u112 u113 u114 u115 u116 u117 u118 u119 u120 u121 u122 u123 u124 u125 u126 u127 u128 u129 u130 u131 t ht hx hb3 ht16; exact hp1.out
          · by_cases ht64 : t < 64
            · rename_i ina16 ina19 ina20 ina25 ina42 ina44 ina45 ina46 ina61 ina62 ina63 ina64 ina65 ina66 ina67 ina68 ina69 ina70 ina71 ina72 ina73 ina74 ina75 ina76 ina77 ina78 ina79 ina80 ina81 ina82 ina83 ina84 ina85 ina86 ina87 ina88 ina89 ina90 ina91 ina92 ina93 ina94 ina95 ina96 ina97 ina98 ina99 ina100 ina101 ina102 ina103 ina104 ina105 ina106 ina107 ina108 ina109 ina110 ina111 ina112 ina113 ina114 ina115 ina116 ina117 ina118 ina119 ina120 ina121 ina122 ina123 ina124 ina125 ina126 ina127 ina128 ina129 ina130 ina131 ina132 ina133 ina134 ina135 ina136 ina137 ina138 ina139 ina140 ina141 ina142 ina143 ina144 ina145 ina146 ina147 ina148 ina149 ina150 ina151 ina152 ina153 ina154 ina155 ina156 ina157 ina158 ina159 ina160 ina298 ina299 ina300 ina301 ina302; revert v bs w M NB hNB0 L hML hL2 HMB HSH F HF HLN wA wB ina16 w1 w0 ina19 ina20 gm capm hgl hgc ina25 hb00 HC0 hszw0 gs Hgs gk Hgk hgs1 hgs2 hgk1 hgk2 hgm1 HK0 HO0 wr0 wo ina42 u8 ina44 ina45 ina46 u12 u13 u14 u15 u16 u17 u18 u25 u26 u27 u28 u29 u30 u31 ina61 ina62 ina63 ina64 ina65 ina66 ina67 ina68 ina69 ina70 ina71 ina72 ina73 ina74 ina75 ina76 ina77 ina78 ina79 ina80 ina81 ina82 ina83 ina84 ina85 ina86 ina87 ina88 ina89 ina90 ina91 ina92 ina93 ina94 ina95 ina96 ina97 ina98 ina99 ina100 ina101 ina102 ina103 ina104 ina105 ina106 ina107 ina108 ina109 ina110 ina111 ina112 ina113 ina114 ina115 ina116 ina117 ina118 ina119 ina120 ina121 ina122 ina123 ina124 ina125 ina126 ina127 ina128 ina129 ina130 ina131 ina132 ina133 ina134 ina135 ina136 ina137 ina138 ina139 ina140 ina141 ina142 ina143 ina144 ina145 ina146 ina147 ina148 ina149 ina150 ina151 ina152 ina153 ina154 ina155 ina156 ina157 ina158 ina159 ina160 u132 u133 u134 u135 u136 u137 u138 u139 u140 u141 u142 u143 u144 u145 u146 u147 u148 u149 u150 u151 u152 u153 u154 u155 u156 u157 u158 u159 u160 u161 u162 u163 u164 u165 u166 u167 u168 u169 u170 u171 u172 u173 u174 u175 u176 u177 u178 u179 u180 u181 u182 u183 u184 u185 u186 u187 u188 u189 u190 u191 u192 u193 u194 u195 u196 u197 u198 u199 u200 u201 u202 u203 u204 u205 u206 u207 u208 u209 u210 u211 u212 u213 u214 u215 u216 u217 u218 u219 u220 u221 u222 u223 u224 u225 u226 u227 u228 u229 u230 u231 u232 u233 u234 u235 u236 u237 u238 u239 u240 u241 u242 u243 u244 u245 u246 u247 u248 u249 u250 n A hn hnN W HW hAL hALn hALi s Hs HCr HKr HSr HGR HA hszr hgmr ina298 ina299 ina300 ina301 ina302 w2 wi u7 u9 u10 u11 u32 u33 u34 u35 u36 u37 u38 u39 u40 u41 u42 u43 u44 u45 u46 u47 u48 u49 u50 u51 u52 u53 u54 u55 u56 u57 u58 u59 u60 u61 u62 u63 u64 u65 u66 u67 u68 u69 u70 u71 u72 u73 u74 u75 u76 u77 u78 u79 u80 u81 u82 u83 u84 u85 u86 u87 u88 u89 u90 u91 u92 u93 u94 u95 u96 u97 u98 u99 u100 u101 u102 u103 u104 u105 u106 u107 u108 u109 u110 u111 u112 u113 u114 u115 u116 u117 u118 u119 u120 u121 u122 u123 u124 u125 u126 u127 u128 u129 u130 u131 t ht hx hb3 ht16 ht64; exact hp2.out
            · have ht' : t = 64 := by omega
              subst ht'
              obtain ⟨gw, capw, hu7, hgw, hgwc, hgwm, hgwl⟩ := hx.shape (by intro e; have := congrArg List.length e; rw [wl_length, List.length_nil] at this; omega)
              rw [wl_length] at hu7 hgwc
              subst hu7
              unfold maxLen at hgwm
              have HCW : Hid (∀ j, j < 64 → wi.cell? ⟨gw, j, none⟩ = some (.int .u32 (W j))) := fun j hj => by rw [← wl_getD W 64 j hj]; exact hx.cellAt j (by rw [wl_length]; exact hj)
              have HSi : Hid (Arr wi gs 35 .u32 8 s) := Arr.below HSr.out hb3
              have HKi : Hid (Arr wi gk 35 .u32 64 KL) := Arr.below HKr.out hb3
              have HB3 : Hid (Below wo.heap.size wo wi) := hb3
              have hownv : OwnW (wi.alloc (.cells #[] 35)) wi.heap.size (.slice (some ⟨wi.heap.size, 0, none⟩) 0 0) [] := ownW_lit wi wi.heap.size [] #[] rfl (Nat.le_refl _) (by decide)
              have HSA : Hid (∀ j, j < 8 → (wi.alloc (.cells #[] 35)).cell? ((⟨gs, 0, none⟩ : Addr).add j) = some (.int .u32 ((wl s 8).getD j 0))) := fun j hj => by
                rw [add_plain, Nat.zero_add, wl_getD s 8 j hj]
                exact (Arr.alloc HSi.out _).cell j hj
              have HOV : Hid (OwnW (wi.alloc (.cells #[] 35)) wi.heap.size (.slice (some ⟨wi.heap.size, 0, none⟩) 0 0) []) := hownv
              clear hx hb3 hownv
              go_wp2_with (at_builtin; refine wpl_appW rfl (.tmp 132) (.tmp 133) rfl rfl HOV.out ⟨gs, 0, none⟩ 8 8 (ys := wl s 8) rfl (wl_length _ _) HSA.out (by simp) (by simp) ?_; intro xv w4 hxv hb4; simp only [List.nil_append] at hxv)
              have hb4' : Below wi.heap.size wi w4 := ((Below.refl _ wi).alloc (Nat.le_refl _) _).trans hb4
              obtain ⟨gv0, capv0, hxe, hgv0, hgvc, hgvm, hgvl⟩ := hxv.shape (by intro e; have := congrArg List.length e; rw [wl_length, List.length_nil] at this; omega)
              rw [wl_length] at hxe hgvc
              subst hxe
              unfold maxLen at hgvm
              have HCV0 : Hid (∀ j, j < 8 → w4.cell? ⟨gv0, j, none⟩ = some (.int .u32 (s j))) := fun j hj => by rw [← wl_getD s 8 j hj]; exact hxv.cellAt j (by rw [wl_length]; exact hj)
              clear hxv hb4 HOV HSA
              go_loopw [12, 13] (fun x i wr => ∃ (t gv capv : Nat) (V : Nat → Int), t ≤ 64 ∧ i = .int .i64 t ∧ x = .slice (some ⟨gv, 0, none⟩) 8 capv ∧ 8 ≤ capv ∧ capv ≤ 2 ^ 63 - 1 ∧ Hid (V = rnds s KL W t) ∧ Hid (∀ j, j < 8 → wr.cell? ⟨gv, j, none⟩ = some (.int .u32 (V j))) ∧ wi.heap.size ≤ gv ∧ Below wi.heap.size wi wr) (fun _ i _ => 64 - (intOf i).toNat)
              case atStart => exact ⟨0, gv0, capv0, s, Nat.zero_le _, rfl, rfl, hgvc, hgvm, rfl, HCV0, hgv0, hb4'⟩
              case round =>
                clear HCV0 hb4' hgv0 hgvc hgvm hgvl
                obtain ⟨t, gv, capv, V, ht, rfl, rfl, hcv, hcm, HVt, HCV, hgv, hb5⟩ := hrel
                rename World => w5
                by_cases ht64 : t < 64
                · rename_i ina16 ina19 ina20 ina25 ina44 ina45 ina46 ina49 ina50 ina51 ina52 ina61 ina62 ina63 ina64 ina65 ina66 ina67 ina68 ina69 ina70 ina71 ina72 ina73 ina74 ina75 ina76 ina77 ina78 ina79 ina80 ina81 ina82 ina83 ina84 ina85 ina86 ina87 ina88 ina89 ina90 ina91 ina92 ina93 ina94 ina95 ina96 ina97 ina98 ina99 ina100 ina101 ina102 ina103 ina104 ina105 ina106 ina107 ina108 ina109 ina110 ina111 ina112 ina113 ina114 ina115 ina116 ina117 ina118 ina119 ina120 ina121 ina122 ina123 ina124 ina125 ina126 ina127 ina128 ina129 ina130 ina131 ina132 ina133 ina134 ina135 ina136 ina137 ina138 ina139 ina140 ina141 ina142 ina143 ina144 ina145 ina146 ina147 ina148 ina149 ina150 ina151 ina152 ina153 ina154 ina155 ina156 ina157 ina158 ina159 ina160 ina164 ina165 ina166 ina167 ina168 ina169 ina170 ina171 ina172 ina173 ina174 ina175 ina176 ina177 ina178 ina179 ina180 ina181 ina182 ina183 ina184 ina185 ina186 ina187 ina188 ina189 ina190 ina191 ina192 ina193 ina194 ina195 ina196 ina197 ina198 ina199 ina200 ina201 ina202 ina203 ina204 ina205 ina206 ina207 ina208 ina209 ina210 ina211 ina212 ina213 ina214 ina215 ina216 ina217 ina218 ina219 ina220 ina221 ina222 ina223 ina224 ina225 ina226 ina227 ina228 ina229 ina230 ina231 ina232 ina233 ina234 ina235 ina236 ina237 ina238 ina239 ina240 ina241 ina242 ina243 ina244 ina245 ina246 ina247 ina248 ina249 ina250 ina251 ina252 ina253 ina254 ina255 ina256 ina257 ina258 ina259 ina260 ina261 ina262 ina263 ina298 ina299 ina300 ina301 ina407 ina409 ina420 ina421 ina422 ina424 ina425; revert v bs w M NB hNB0 L hML hL2 HMB HSH F HF HLN wA wB ina16 w1 w0 ina19 ina20 gm capm hgl hgc ina25 hb00 HC0 hszw0 gs Hgs gk Hgk hgs1 hgs2 hgk1 hgk2 hgm1 HK0 HO0 wr0 wo u7 u8 ina44 ina45 ina46 u12 u13 ina49 ina50 ina51 ina52 u18 u25 u26 u27 u28 u29 u30 u31 ina61 ina62 ina63 ina64 ina65 ina66 ina67 ina68 ina69 ina70 ina71 ina72 ina73 ina74 ina75 ina76 ina77 ina78 ina79 ina80 ina81 ina82 ina83 ina84 ina85 ina86 ina87 ina88 ina89 ina90 ina91 ina92 ina93 ina94 ina95 ina96 ina97 ina98 ina99 ina100 ina101 ina102 ina103 ina104 ina105 ina106 ina107 ina108 ina109 ina110 ina111 ina112 ina113 ina114 ina115 ina116 ina117 ina118 ina119 ina120 ina121 ina122 ina123 ina124 ina125 ina126 ina127 ina128 ina129 ina130 ina131 ina132 ina133 ina134 ina135 ina136 ina137 ina138 ina139 ina140 ina141 ina142 ina143 ina144 ina145 ina146 ina147 ina148 ina149 ina150 ina151 ina152 ina153 ina154 ina155 ina156 ina157 ina158 ina159 ina160 u132 u133 u134 ina164 ina165 ina166 ina167 ina168 ina169 ina170 ina171 ina172 ina173 ina174 ina175 ina176 ina177 ina178 ina179 ina180 ina181 ina182 ina183 ina184 ina185 ina186 ina187 ina188 ina189 ina190 ina191 ina192 ina193 ina194 ina195 ina196 ina197 ina198 ina199 ina200 ina201 ina202 ina203 ina204 ina205 ina206 ina207 ina208 ina209 ina210 ina211 ina212 ina213 ina214 ina215 ina216 ina217 ina218 ina219 ina220 ina221 ina222 ina223 ina224 ina225 ina226 ina227 ina228 ina229 ina230 ina231 ina232 ina233 ina234 ina235 ina236 ina237 ina238 ina239 ina240 ina241 ina242 ina243 ina244 ina245 ina246 ina247 ina248 ina249 ina250 ina251 ina252 ina253 ina254 ina255 ina256 ina257 ina258 ina259 ina260 ina261 ina262 ina263 u235 u236 u237 u238 u239 u240 u241 u242 u243 u244 u245 u246 u247 u248 u249 u250 n A hn hnN W HW hAL hALn hALi s Hs HCr HKr HSr HGR HA hszr hgmr ina298 ina299 ina300 ina301 w2 wi u9 u10 u11 u32 u33 u34 u35 u36 u37 u38 u39 u40 u41 u42 u43 u44 u45 u46 u47 u48 u49 u50 u51 u52 u53 u54 u55 u56 u57 u58 u59 u60 u61 u62 u63 u64 u65 u66 u67 u68 u69 u70 u71 u72 u73 u74 u75 u76 u77 u78 u79 u80 u81 u82 u83 u84 u85 u86 u87 u88 u89 u90 u91 u92 u93 u94 u95 u96 u97 u98 u99 u100 u101 u102 u103 u104 u105 u106 u107 u108 u109 u110 u111 u112 u113 u114 u115 u116 u117 u118 u119 u120 u121 u122 u123 u124 u125 u126 u127 u128 u129 u130 u131 ina407 ht16 ina409 gw capw hgw hgwc hgwm hgwl HCW HSi HKi HB3 ina420 ina421 ina422 w4 ina424 ina425 gv0 capv0 w5 u14 u15 u16 u17 u135 u136 u137 u138 u139 u140 u141 u142 u143 u144 u145 u146 u147 u148 u149 u150 u151 u152 u153 u154 u155 u156 u157 u158 u159 u160 u161 u162 u163 u164 u165 u166 u167 u168 u169 u170 u171 u172 u173 u174 u175 u176 u177 u178 u179 u180 u181 u182 u183 u184 u185 u186 u187 u188 u189 u190 u191 u192 u193 u194 u195 u196 u197 u198 u199 u200 u201 u202 u203 u204 u205 u206 u207 u208 u209 u210 u211 u212 u213 u214 u215 u216 u217 u218 u219 u220 u221 u222 u223 u224 u225 u226 u227 u228 u229 u230 u231 u232 u233 u234 t gv capv V ht hcv hcm HVt HCV hgv hb5 ht64; exact hp3.out
                · rename_i ina16 ina19 ina20 ina25 ina44 ina45 ina46 ina49 ina50 ina51 ina52 ina61 ina62 ina63 ina64 ina65 ina66 ina67 ina68 ina69 ina70 ina71 ina72 ina73 ina74 ina75 ina76 ina77 ina78 ina79 ina80 ina81 ina82 ina83 ina84 ina85 ina86 ina87 ina88 ina89 ina90 ina91 ina92 ina93 ina94 ina95 ina96 ina97 ina98 ina99 ina100 ina101 ina102 ina103 ina104 ina105 ina106 ina107 ina108 ina109 ina110 ina111 ina112 ina113 ina114 ina115 ina116 ina117 ina118 ina119 ina120 ina121 ina122 ina123 ina124 ina125 ina126 ina127 ina128 ina129 ina130 ina131 ina132 ina133 ina134 ina135 ina136 ina137 ina138 ina139 ina140 ina141 ina142 ina143 ina144 ina145 ina146 ina147 ina148 ina149 ina150 ina151 ina152 ina153 ina154 ina155 ina156 ina157 ina158 ina159 ina160 ina164 ina165 ina166 ina167 ina168 ina169 ina170 ina171 ina172 ina173 ina174 ina175 ina176 ina177 ina178 ina179 ina180 ina181 ina182 ina183 ina184 ina185 ina186 ina187 ina188 ina189 ina190 ina191 ina192 ina193 ina194 ina195 ina196 ina197 ina198 ina199 ina200 ina201 ina202 ina203 ina204 ina205 ina206 ina207 ina208 ina209 ina210 ina211 ina212 ina213 ina214 ina215 ina216 ina217 ina218 ina219 ina220 ina221 ina222 ina223 ina224 ina225 ina226 ina227 ina228 ina229 ina230 ina231 ina232 ina233 ina234 ina235 ina236 ina237 ina238 ina239 ina240 ina241 ina242 ina243 ina244 ina245 ina246 ina247 ina248 ina249 ina250 ina251 ina252 ina253 ina254 ina255 ina256 ina257 ina258 ina259 ina260 ina261 ina262 ina263 ina298 ina299 ina300 ina301 ina407 ina409 ina420 ina421 ina422 ina424 ina425; revert v bs w M NB hNB0 L hML hL2 HMB HSH F HF HLN wA wB ina16 w1 w0 ina19 ina20 gm capm hgl hgc ina25 hb00 HC0 hszw0 gs Hgs gk Hgk hgs1 hgs2 hgk1 hgk2 hgm1 HK0 HO0 wr0 wo u7 u8 ina44 ina45 ina46 u12 u13 ina49 ina50 ina51 ina52 u18 u25 u26 u27 u28 u29 u30 u31 ina61 ina62 ina63 ina64 ina65 ina66 ina67 ina68 ina69 ina70 ina71 ina72 ina73 ina74 ina75 ina76 ina77 ina78 ina79 ina80 ina81 ina82 ina83 ina84 ina85 ina86 ina87 ina88 ina89 ina90 ina91 ina92 ina93 ina94 ina95 ina96 ina97 ina98 ina99 ina100 ina101 ina102 ina103 ina104 ina105 ina106 ina107 ina108 ina109 ina110 ina111 ina112 ina113 ina114 ina115 ina116 ina117 ina118 ina119 ina120 ina121 ina122 ina123 ina124 ina125 ina126 ina127 ina128 ina129 ina130 ina131 ina132 ina133 ina134 ina135 ina136 ina137 ina138 ina139 ina140 ina141 ina142 ina143 ina144 ina145 ina146 ina147 ina148 ina149 ina150 ina151 ina152 ina153 ina154 ina155 ina156 ina157 ina158 ina159 ina160 u132 u133 u134 ina164 ina165 ina166 ina167 ina168 ina169 ina170 ina171 ina172 ina173 ina174 ina175 ina176 ina177 ina178 ina179 ina180 ina181 ina182 ina183 ina184 ina185 ina186 ina187 ina188 ina189 ina190 ina191 ina192 ina193 ina194 ina195 ina196 ina197 ina198 ina199 ina200 ina201 ina202 ina203 ina204 ina205 ina206 ina207 ina208 ina209 ina210 ina211 ina212 ina213 ina214 ina215 ina216 ina217 ina218 ina219 ina220 ina221 ina222 ina223 ina224 ina225 ina226 ina227 ina228 ina229 ina230 ina231 ina232 ina233 ina234 ina235 ina236 ina237 ina238 ina239 ina240 ina241 ina242 ina243 ina244 ina245 ina246 ina247 ina248 ina249 ina250 ina251 ina252 ina253 ina254 ina255 ina256 ina257 ina258 ina259 ina260 ina261 ina262 ina263 u235 u236 u237 u238 u239 u240 u241 u242 u243 u244 u245 u246 u247 u248 u249 u250 n A hn hnN W HW hAL hALn hALi s Hs HCr HKr HSr HGR HA hszr hgmr ina298 ina299 ina300 ina301 w2 wi u9 u10 u11 u32 u33 u34 u35 u36 u37 u38 u39 u40 u41 u42 u43 u44 u45 u46 u47 u48 u49 u50 u51 u52 u53 u54 u55 u56 u57 u58 u59 u60 u61 u62 u63 u64 u65 u66 u67 u68 u69 u70 u71 u72 u73 u74 u75 u76 u77 u78 u79 u80 u81 u82 u83 u84 u85 u86 u87 u88 u89 u90 u91 u92 u93 u94 u95 u96 u97 u98 u99 u100 u101 u102 u103 u104 u105 u106 u107 u108 u109 u110 u111 u112 u113 u114 u115 u116 u117 u118 u119 u120 u121 u122 u123 u124 u125 u126 u127 u128 u129 u130 u131 ina407 ht16 ina409 gw capw hgw hgwc hgwm hgwl HCW HSi HKi HB3 ina420 ina421 ina422 w4 ina424 ina425 gv0 capv0 w5 u14 u15 u16 u17 u135 u136 u137 u138 u139 u140 u141 u142 u143 u144 u145 u146 u147 u148 u149 u150 u151 u152 u153 u154 u155 u156 u157 u158 u159 u160 u161 u162 u163 u164 u165 u166 u167 u168 u169 u170 u171 u172 u173 u174 u175 u176 u177 u178 u179 u180 u181 u182 u183 u184 u185 u186 u187 u188 u189 u190 u191 u192 u193 u194 u195 u196 u197 u198 u199 u200 u201 u202 u203 u204 u205 u206 u207 u208 u209 u210 u211 u212 u213 u214 u215 u216 u217 u218 u219 u220 u221 u222 u223 u224 u225 u226 u227 u228 u229 u230 u231 u232 u233 u234 t gv capv V ht hcv hcm HVt HCV hgv hb5 ht64; exact hp4.out
      · rename_i ina16 ina19 ina20 ina25; revert v bs w M NB hNB0 L hML hL2 HMB HSH F HF HLN wA wB ina16 w1 w0 ina19 ina20 gm capm hgl hgc ina25 hb00 HC0 hszw0 gs Hgs gk Hgk hgs1 hgs2 hgk1 hgk2 hgm1 HK0 HO0 wr0 wo u7 u8 u9 u10 u11 u12 u13 u14 u15 u16 u17 u18 u25 u26 u27 u28 u29 u30 u31 u32 u33 u34 u35 u36 u37 u38 u39 u40 u41 u42 u43 u44 u45 u46 u47 u48 u49 u50 u51 u52 u53 u54 u55 u56 u57 u58 u59 u60 u61 u62 u63 u64 u65 u66 u67 u68 u69 u70 u71 u72 u73 u74 u75 u76 u77 u78 u79 u80 u81 u82 u83 u84 u85 u86 u87 u88 u89 u90 u91 u92 u93 u94 u95 u96 u97 u98 u99 u100 u101 u102 u103 u104 u105 u106 u107 u108 u109 u110 u111 u112 u113 u114 u115 u116 u117 u118 u119 u120 u121 u122 u123 u124 u125 u126 u127 u128 u129 u130 u131 u132 u133 u134 u135 u136 u137 u138 u139 u140 u141 u142 u143 u144 u145 u146 u147 u148 u149 u150 u151 u152 u153 u154 u155 u156 u157 u158 u159 u160 u161 u162 u163 u164 u165 u166 u167 u168 u169 u170 u171 u172 u173 u174 u175 u176 u177 u178 u179 u180 u181 u182 u183 u184 u185 u186 u187 u188 u189 u190 u191 u192 u193 u194 u195 u196 u197 u198 u199 u200 u201 u202 u203 u204 u205 u206 u207 u208 u209 u210 u211 u212 u213 u214 u215 u216 u217 u218 u219 u220 u221 u222 u223 u224 u225 u226 u227 u228 u229 u230 u231 u232 u233 u234 u235 u236 u237 u238 u239 u240 u241 u242 u243 u244 u245 u246 u247 u248 u249 u250 n A hn hA hS hgr hnN; exact hp5.out

end Go.Proofs.YthfikoghbnicoabDoor
