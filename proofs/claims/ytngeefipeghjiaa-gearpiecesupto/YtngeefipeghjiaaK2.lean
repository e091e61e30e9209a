/- Package gear's chunks. -/
import Derived.Test.YtngeefipeghjiaaK1
namespace Go.Proofs.Ytngeefipeghjiaa
open Go.RowKit

theorem feed_snoc (E : List Int → Bool) (l ps : List Int) (x : Int) : feed E l (ps ++ [x]) = if E ((feed E l ps).2 ++ [x]) then ((feed E l ps).1 ++ [(feed E l ps).2 ++ [x]], []) else ((feed E l ps).1, (feed E l ps).2 ++ [x]) := by
  rw [feed_append, feed_cons]
  split
  · simp [feed_nil]
  · simp [feed_nil]
/-- The blocks of chunks: of a cutter's own (v0), or new; none of them is held (v). -/
def Ck (v0 : Value) (n : Nat) (v : Value) (k : Nat) : Prop := (k ∈ ob v0 ∨ n ≤ k) ∧ k ∉ ob v
theorem byte_nat {l : List Int} (h : Byt l) {i : Nat} (hi : i < l.length) : ∃ k : Nat, k < 256 ∧ l.getD i 0 = (k : Int) := by
  have hm : l.getD i 0 ∈ l := by simp only [List.getD, List.getElem?_eq_getElem hi, Option.getD_some]; exact List.getElem_mem hi
  have := h _ hm
  exact ⟨(l.getD i 0).toNat, by omega, by omega⟩
theorem take_snoc' (l : List Int) {i : Nat} (hi : i < l.length) : l.take (i + 1) = l.take i ++ [l.getD i 0] := by
  rw [List.take_add_one, List.getElem?_eq_getElem hi]
  simp [List.getD, List.getElem?_eq_getElem hi]
theorem own_nilB (w : World) : OwnB w 0 (.slice none 0 0) [] := World.ownsRow_nil w 0 5 1
theorem feed_len (E : List Int → Bool) (ps : List Int) : ∀ l, (feed E l ps).1.length ≤ ps.length := by
  induction ps with
  | nil => intro l; simp [feed_nil]
  | cons x ps ih =>
    intro l
    rw [feed_cons]
    split
    · have := ih []; simp; omega
    · have := ih (l ++ [x]); simp; omega
theorem byt_feed {E : List Int → Bool} (ps : List Int) : ∀ {l : List Int}, Byt l → Byt ps → Byt (feed E l ps).2 := by
  induction ps with
  | nil => intro l h _; rw [feed_nil]; exact h
  | cons x ps ih =>
    intro l h hp
    have hx : Byt (l ++ [x]) := fun y hy => by
      rcases List.mem_append.1 hy with q | q
      · exact h y q
      · simp at q; subst q; exact hp y (by simp)
    have hp' : Byt ps := fun y hy => hp y (by simp [hy])
    rw [feed_cons]
    split
    · exact ih (l := []) (fun y hy => by cases hy) hp'
    · exact ih hx hp'
section
variable {w : World} {p : Nat} {mn mx lo : Int} {T : Nat → Int} {cs : Array Value} {v : Value} {l : List Int} {over : Bool} {hh : Int}
/-- A row of chunks stays while another byte is held. -/
theorem ck_step {w1 : World} {v0 v2 u : Value} {n : Nat} {L : List (List Int)} (hO : OwnR w (Ck v0 n v) 0 u L) (hC : CutAt w p 0 mn mx lo T cs v l hh over) (hG : Chg (p :: ob v) w w1) (hV : v2.ownBlock = v.ownBlock ∨ v2.ownBlock = some (w.heap.size + 1)) : OwnR w1 (Ck v0 n v2) 0 u L := by
  have h1 : OwnR w (fun k => Ck v0 n v k ∧ k < w.heap.size) 0 u L := hO.mono (fun k hk hs => ⟨hs, hk.lt⟩)
  have h2 : OwnR w1 (fun k => Ck v0 n v k ∧ k < w.heap.size) 0 u L := by
    refine h1.far hG (fun k hk hs hm => ?_) (fun k hk _ hm => ?_)
    · rcases List.mem_cons.1 hm with q | q
      · subst q; exact (Ty.ne hk hC.ty (by decide)) rfl
      · exact hs.1.2 q
    · rcases List.mem_cons.1 hm with q | q
      · subst q; exact (Ty.ne hk hC.ty (by decide)) rfl
      · exact (Ty.ne hk (own_ty hC.own (mem_ob.1 q)) (by decide)) rfl
  refine h2.mono (fun k _ hs => ⟨hs.1.1, fun hm => ?_⟩)
  rcases hV with q | q
  · exact hs.1.2 (mem_ob.2 (by rw [← q]; exact mem_ob.1 hm))
  · have := mem_ob.1 hm
    rw [q] at this
    cases this
    have := hs.2
    omega
end
section
variable {w : World} {p : Nat} {mn mx lo : Int} {T : Nat → Int} {cs : Array Value} {v : Value} {l : List Int} {over : Bool}
set_option maxHeartbeats 2000000 in
set_option maxRecDepth 100000 in
theorem chunks_any (h : CutAt w p 0 mn mx lo T cs v l (hsh T l) over) (hmx : mx ≤ 512) (hl : l.length ≤ 512) (hbl : Byt l) (pv : Value) (ps : List Int) (hp : Bs w pv ps) (hsep : 0 < ps.length → ∀ k, pv.ownBlock = some k → k ∉ p :: ob v) (hps : ps.length ≤ 1000000000000) :
    Calls Try.prog 27 #[pv, .func (.func 28) #[.pointer (some ⟨p, 0, none⟩)] #[], .func (.func 29) #[.pointer (some ⟨p, 0, none⟩)] #[]] w fun e w' => ∃ rv cs' v', e = .returned rv ∧ OwnR w' (Ck v w.heap.size v') 0 rv (feed (endL mn mx lo T) l ps).1 ∧ (∀ k ∈ ob rv, w.heap.size ≤ k) ∧ CutAt w' p 0 mn mx lo T cs' v' (feed (endL mn mx lo T) l ps).2 (hsh T (feed (endL mn mx lo T) l ps).2) over ∧ Chg (p :: ob v) w w' ∧ (∀ k ∈ ob v', k ∈ ob v ∨ w.heap.size ≤ k) := by
  obtain ⟨E, HE⟩ : ∃ E, Hid (endL mn mx lo T = E) := ⟨_, ⟨rfl⟩⟩
  rw [HE.out]
  have HH : Hid (CutAt w p 0 mn mx lo T cs v l (hsh T l) over) := ⟨h⟩
  have HP : Hid (Bs w pv ps) := ⟨hp⟩
  obtain ⟨ao, cap, rfl, hpl, hpm, hpn, hpc, hpy⟩ := hp
  have HY : Hid (Byt ps) := ⟨hpy⟩
  obtain ⟨N, HN⟩ : ∃ N, Hid (ps.length = N) := ⟨_, ⟨rfl⟩⟩
  rw [HN.out] at hps hpl
  clear hpc hpy h
  have HL : Hid (Byt l) := ⟨hbl⟩
  go_enter Try.func27, Try.ntmps27
  rw [HN.out]
  go_wp2_with fail
  go_loopg [7, 9, 12] N (fun gg s7 _ s12 wr => ∃ kk : Nat, kk ≤ N ∧ N - kk ≤ gg ∧ s12 = .int .i64 (kk : Int) ∧ ∃ cs' v', Hid (OwnR wr (Ck v w.heap.size v') 0 s7 (feed E l (ps.take kk)).1) ∧ Hid (∀ k ∈ ob s7, w.heap.size ≤ k) ∧ Hid (CutAt wr p 0 mn mx lo T cs' v' (feed E l (ps.take kk)).2 (hsh T (feed E l (ps.take kk)).2) over) ∧ Hid (Chg (p :: ob v) w wr) ∧ Hid (∀ k ∈ ob v', k ∈ ob v ∨ w.heap.size ≤ k) ∧ Hid ((feed E l (ps.take kk)).2.length ≤ 512))
  case atStart => exact ⟨0, Nat.zero_le _, by omega, rfl, cs, v, ⟨by rw [List.take_zero, feed_nil]; exact OwnR.nil _ _ _⟩, ⟨by simp [ob, Value.ownBlock]⟩, ⟨by rw [List.take_zero, feed_nil]; exact HH.out⟩, ⟨Chg.refl _ _⟩, ⟨fun k hk => .inl hk⟩, ⟨by rw [List.take_zero, feed_nil]; exact hl⟩⟩
  case round =>
    obtain ⟨kk, hkk, hgg, rfl, cs1, v1, HO, HOB, HC, HG, HV, HLn⟩ := hrel
    by_cases hlt : kk < N
    · have hltz : (kk : Int) < (N : Int) := by omega
      have hlt' : kk < ps.length := by rw [HN.out]; exact hlt
      have hP1 : Bs wr (.slice ao ps.length cap) ps := HP.out.far HG.out hsep
      rcases hP1.cases with ⟨e0, _⟩ | ⟨_, b, off, cap2, e1, _, _, _, hcell⟩
      · rw [e0] at hlt'; simp at hlt'
      · simp at e1
        obtain ⟨rfl, rfl⟩ := e1
        obtain ⟨k, hk, hkx⟩ := byte_nat HY.out hlt'
        have hc := hcell kk hlt'
        rw [hkx] at hc
        have HT1 : Hid (ps.take (kk + 1) = ps.take kk ++ [(k : Int)]) := ⟨by rw [take_snoc' ps hlt', hkx]⟩
        obtain ⟨R, HR⟩ : ∃ R, Hid (feed E l (ps.take kk) = R) := ⟨_, ⟨rfl⟩⟩
        rw [HR.out] at HO HC HLn
        have HF : Hid (feed E l (ps.take (kk + 1)) = if E (R.2 ++ [(k : Int)]) then (R.1 ++ [R.2 ++ [(k : Int)]], []) else (R.1, R.2 ++ [(k : Int)])) := ⟨by rw [HT1.out, feed_snoc, HR.out]⟩
        have t := take_any HC.out k hk (by have := HLn.out; omega)
        clear hcell hP1
        rw [HE.out] at t
        cases hE : E (R.2 ++ [(k : Int)]) with
        | true =>
          rw [hE] at t
          go_wp2_with (go_at_call 28; refine t.mono ?_; rintro e w1 ⟨rfl, cs2, v2, hC2, hG2, hV2⟩)
          have hS1 : OwnR w1 (Ck v w.heap.size v2) 0 u7 R.1 := ck_step HO.out HC.out hG2 hV2
          obtain ⟨ao2, cap2, rfl, _⟩ := OwnB.mine hC2.own
          have HX : Hid (∃ w2, w2 = (w1.setCell ⟨p, 259, none⟩ (.slice none 0 0)).setCell ⟨p, 260, none⟩ (.int .u32 0) ∧ CutAt w2 p 0 mn mx lo T ((cs2.setIfInBounds 259 (.slice none 0 0)).setIfInBounds 260 (.int .u32 0)) (.slice none 0 0) [] 0 over ∧ OwnR w2 (Ck v w.heap.size (.slice none 0 0)) 0 u7 R.1 ∧ Bo w2 (Ck v w.heap.size (.slice none 0 0)) (.slice ao2 (R.2 ++ [(k : Int)]).length cap2) (R.2 ++ [(k : Int)]) ∧ Chg (p :: ob v) w w2) := ⟨_, rfl, (hC2.put (Chg.refl _ _) (own_nilB _)).hash 0, by
            have hc : Chg [p] w1 ((w1.setCell ⟨p, 259, none⟩ (.slice none 0 0)).setCell ⟨p, 260, none⟩ (.int .u32 0)) := ((Chg.refl [p] w1).setCell (.inl (by simp)) _).setCell (.inl (by simp)) _
            refine (hS1.far hc (fun k hk _ hm => ?_) (fun k hk _ hm => ?_)).mono (fun k _ hk => ⟨hk.1, by simp [ob, Value.ownBlock]⟩)
            · simp at hm; subst hm; exact (Ty.ne hk hC2.ty (by decide)) rfl
            · simp at hm; subst hm; exact (Ty.ne hk hC2.ty (by decide)) rfl, by
            have hc : Chg [p] w1 ((w1.setCell ⟨p, 259, none⟩ (.slice none 0 0)).setCell ⟨p, 260, none⟩ (.int .u32 0)) := ((Chg.refl [p] w1).setCell (.inl (by simp)) _).setCell (.inl (by simp)) _
            have hy2 : Byt (R.2 ++ [(k : Int)]) := by
              have h0 := byt_feed (E := E) (ps.take kk) HL.out (fun y hy => HY.out y (List.mem_of_mem_take hy))
              rw [HR.out] at h0
              intro y hy
              rcases List.mem_append.1 hy with q | q
              · exact h0 y q
              · simp at q; subst q; omega
            have hb0 : Bo w1 (Ck v w.heap.size (.slice none 0 0)) (.slice ao2 (R.2 ++ [(k : Int)]).length cap2) (R.2 ++ [(k : Int)]) := OwnB.bo hC2.own hy2 (fun g hg => ⟨by
              rcases hV2 with q | q
              · exact HV.out g (mem_ob.2 (by rw [← q]; exact hg))
              · rw [q] at hg; cases hg; exact .inr (by have := HG.out.size; omega), by simp [ob, Value.ownBlock]⟩)
            refine hb0.far hc (fun k hk _ hm => ?_)
            simp at hm; subst hm; exact (Ty.ne hk hC2.ty (by decide)) rfl, by
            exact ((HG.out.thenNew hG2 (fun x hx => by
              rcases List.mem_cons.1 hx with q | q
              · exact .inl (by simp [q])
              · rcases HV.out x q with q | q
                · exact .inl (List.mem_cons_of_mem _ q)
                · exact .inr q)).setCell (.inl (by simp)) _).setCell (.inl (by simp)) _⟩
          have tr := release_any hC2.row hC2.c4 hC2.c5
          clear hS1 hC2 hG2 hV2 t
          have Hlen2 : Hid (feed E l (ps.take (kk + 1)) = (R.1 ++ [R.2 ++ [(k : Int)]], [])) := ⟨by rw [HF.out, if_pos hE]⟩
          have hRl : R.1.length ≤ 1000000000000 := by
            have := feed_len E (ps.take kk) l
            rw [HR.out] at this
            have := List.length_take_le kk ps
            omega
          refine tr.mono ?_
          rintro e w2 ⟨rfl, hw2⟩
          obtain ⟨w2x, e2, hC3, hO3, hB3, hG3⟩ := HX.out
          rw [← e2] at hw2
          subst hw2
          clear e2 HX tr
          have HC3 : Hid (CutAt w2 p 0 mn mx lo T ((cs2.setIfInBounds 259 (.slice none 0 0)).setIfInBounds 260 (.int .u32 0)) (.slice none 0 0) [] 0 over) := ⟨hC3⟩
          have HG3 : Hid (Chg (p :: ob v) w w2) := ⟨hG3⟩
          have HO3 : Hid (OwnR w2 (Ck v w.heap.size (.slice none 0 0)) 0 u7 R.1) := ⟨hO3⟩
          obtain ⟨n2, Hn2⟩ : ∃ n2, Hid ((R.2 ++ [(k : Int)]).length = n2) := ⟨_, ⟨rfl⟩⟩
          rw [Hn2.out] at hB3 ⊢
          clear hC3 hO3 hG3 hE
          go_wp2_with (at_builtin; refine wp_appR1 rfl (.tmp 19) (.tmp 22) rfl rfl HO3.out hB3 rfl hRl (Nat.zero_le _) ?_; intro rv' w3 hO4 hG4 hV4; replace hG4 : Chg (ob u7) w2 w3 := hG4; replace hV4 : rv'.ownBlock = u7.ownBlock ∨ rv'.ownBlock = some (w2.heap.size + 1) := hV4)
          go_roundg (N - (kk + 1))
          case measure => omega
          case rel =>
            have hpu : p ∉ ob u7 := fun hm => by
              obtain ⟨vs, hv1, _⟩ := HO3.out
              exact (Ty.ne HC3.out.ty (own_ty hv1 (mem_ob.1 hm)) (by decide)) rfl
            refine ⟨kk + 1, by omega, by omega, by go_num, _, _, ⟨by rw [Hlen2.out]; exact hO4⟩, ⟨fun g hg => ?_⟩, ⟨by rw [Hlen2.out]; exact HC3.out.far hG4 hpu (by simp [ob, Value.ownBlock])⟩, ⟨HG3.out.thenNew hG4 (fun x hx => .inr (HOB.out x hx))⟩, ⟨by simp [ob, Value.ownBlock]⟩, ⟨by rw [Hlen2.out]; simp⟩⟩
            · rcases hV4 with q | q
              · exact HOB.out g (mem_ob.2 (by rw [← q]; exact mem_ob.1 hg))
              · have := mem_ob.1 hg
                rw [q] at this
                cases this
                have := HG3.out.size
                omega
        | false =>
          rw [hE] at t
          have Hlen2 : Hid (feed E l (ps.take (kk + 1)) = (R.1, R.2 ++ [(k : Int)])) := ⟨by rw [HF.out, if_neg (by simp [hE])]⟩
          have HSh : Hid ((R.2 ++ [(k : Int)]).length ≤ 512) := ⟨by
            rw [← HE.out] at hE
            have := of_decide_eq_false hE
            omega⟩
          clear hE
          go_wp2_with (go_at_call 28; refine t.mono ?_; rintro e w1 ⟨rfl, cs2, v2, hC2, hG2, hV2⟩)
          go_roundg (N - (kk + 1))
          case measure => omega
          case rel =>
            refine ⟨kk + 1, by omega, by omega, by go_num, cs2, v2, ⟨by rw [Hlen2.out]; exact ck_step HO.out HC.out hG2 hV2⟩, HOB, ⟨by rw [Hlen2.out]; exact hC2⟩, ⟨HG.out.thenNew hG2 (fun x hx => ?_)⟩, ⟨fun g hg => ?_⟩, ⟨by rw [Hlen2.out]; exact HSh.out⟩⟩
            · rcases List.mem_cons.1 hx with q | q
              · exact .inl (by simp [q])
              · rcases HV.out x q with q | q
                · exact .inl (List.mem_cons_of_mem _ q)
                · exact .inr q
            · rcases hV2 with q | q
              · exact HV.out g (mem_ob.2 (by rw [← q]; exact mem_ob.1 hg))
              · have := mem_ob.1 hg
                rw [q] at this
                cases this
                have := HG.out.size
                exact .inr (by omega)
    · obtain rfl : kk = N := by omega
      have hfin : ps.take kk = ps := List.take_of_length_le (by rw [HN.out]; exact Nat.le_refl _)
      rw [hfin] at HO HC
      clear hfin
      obtain ⟨vs, hO1, hO2⟩ := HO.out
      obtain ⟨a7, n7, c7, rfl⟩ : ∃ a n c, u7 = .slice a n c := by
        obtain ⟨a, c, e, _⟩ := own_rd hO1
        exact ⟨a, _, c, e⟩
      clear hO1 hO2
      go_wp2
      go_ret
      exact ⟨_, cs1, v1, rfl, HO.out, HOB.out, HC.out, HG.out, HV.out⟩
end
end Go.Proofs.Ytngeefipeghjiaa
