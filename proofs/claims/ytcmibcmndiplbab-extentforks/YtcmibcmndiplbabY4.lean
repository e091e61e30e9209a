/- slices.Replace over rows of spans, up to the end. -/
import Derived.Test.YtcmibcmndiplbabY3
namespace Go.Proofs.Ytcmibcmndiplbab
open Go.RowKit Go.Lib Go.Shelf

/-- What a Replace leaves: a slice that holds l, in block g or in a new one. -/
def Repl (w : World) (g : Nat) (l : List (Int × Int)) (e : Ending) (w' : World) : Prop :=
  ∃ g' cap' C', e = .returned (.slice (some ⟨g', 0, none⟩) l.length cap') ∧ RowOf w' g' l.length cap' C' l ∧ w.grownBy w' (some g) ∧ (g' = g ∨ w.heap.size ≤ g')
theorem Replaced.repl {w : World} {g n cap : Nat} {l : List (Int × Int)} {e : Ending} {w' : World} (h : Replaced w g n cap l e w') : Repl w g l e w' := by
  obtain ⟨rfl, ⟨C', hC⟩, hg⟩ := h
  have := hC.len
  subst this
  exact ⟨g, cap, C', rfl, hC, hg, .inl rfl⟩

theorem wpl_app {ops : Array Oper} {rest : List Oper} {o : Oper} {a : Act} {w w' : World} {Q : Exit → Act → World → Prop} {v1 v2 v' : Value} {t2 : TypeId} (hgd : o.guard = none) (s x : Operand)
    (ho : o.op = .call { callee := .builtin .append, args := #[s, x], argTypes := #[58, t2] }) (hs : a.eval s = v1) (hx : a.eval x = v2)
    (hr : (Builtin.append_ #[58, t2] o.type #[v1, v2]).run Try.prog w = .ok v' w') (h : wpList Try.prog ops Q rest (a.put o.dst v') w') : wpList Try.prog ops Q (o :: rest) a w := by
  refine wpList_plain hgd fun K hK => ?_
  unfold Oper.wp execOp
  simp only [ho, resolve, invoke, builtin, Sem.run_bind, Sem.run_pure, Result.andThen_ok, List.map_toArray, List.map_cons, List.map_nil, hs, hx, hr]
  exact hK _ _ h

theorem run_app_room (w : World) (ty g i cap gv m cv : Nat) (C : Array Value) (V : List Value) (hC : Row w g C) (hCs : C.size = cap * 2) (hV : V.length = m * 2) (hsrc : ∀ j u, V[j]? = some u → w.cell? ((⟨gv, 0, none⟩ : Addr).add j) = some u) (h1 : ∀ v ∈ V, v.oneCell' = true) (hroom : i + m ≤ cap) :
    (Builtin.append_ #[58, 58] ty #[.slice (some ⟨g, 0, none⟩) i cap, .slice (some ⟨gv, 0, none⟩) m cv]).run Try.prog w = .ok (.slice (some ⟨g, 0, none⟩) (i + m) cap) (w.setRow g (splice C.toList (i * 2) V).toArray) := by
  obtain ⟨inf, hi, _, hi2, _⟩ := info_parts' info57
  have := run_append_room (P := Try.prog) w 58 ty 57 inf Try.underlying58 hi g i cap C hC ⟨gv, 0, none⟩ m cv V (by rw [hi2]; exact hV) hsrc h1 hroom (by rw [hi2]; omega)
  rw [this, hi2]
  unfold splice
  rw [List.append_assoc]

theorem run_app_grow (w : World) (ty g i cap gv m cv : Nat) (l : List (Int × Int)) (V : List Value) (hl : l.length = i) (hold : ∀ j u, (flat2 l)[j]? = some u → w.cell? ((⟨g, 0, none⟩ : Addr).add j) = some u) (hV : V.length = m * 2) (hsrc : ∀ j u, V[j]? = some u → w.cell? ((⟨gv, 0, none⟩ : Addr).add j) = some u) (hroom : cap < i + m) (hk : i + m ≤ 1000000) (hic : i ≤ cap) :
    ∃ cap' C' w', (Builtin.append_ #[58, 58] ty #[.slice (some ⟨g, 0, none⟩) i cap, .slice (some ⟨gv, 0, none⟩) m cv]).run Try.prog w = .ok (.slice (some ⟨w.heap.size, 0, none⟩) (i + m) cap') w' ∧
      Row w' w.heap.size C' ∧ C'.size = cap' * 2 ∧ C'.toList.take ((i + m) * 2) = flat2 l ++ V ∧ i + m ≤ cap' ∧ cap' ≤ maxLen ∧ Below w.heap.size w w' := by
  subst hl
  obtain ⟨inf, hi, hz, hi2, hi3⟩ := info_parts' info57
  have hr := run_append_grow (P := Try.prog) w 58 ty 57 inf _ Try.underlying58 hi hz ⟨g, 0, none⟩ l.length cap (flat2 l) (by rw [hi2]; exact flat2_length l) hold ⟨gv, 0, none⟩ m cv V (by rw [hi2]; exact hV) hsrc hroom (by omega) (growslice_fits (by omega) (by rw [hi3]; omega))
  have hge := grownCap_ge w (l.length + m) cap 57
  have hcm : grownCap w (l.length + m) cap 57 ≤ maxLen := grownCap_le_maxLen w (l.length + m) cap 57 (by unfold maxLen; omega)
  refine ⟨_, _, _, hr, heap_alloc_new w.drew _, ?_, ?_, hge, hcm, ((Below.refl _ w).drew).alloc (Nat.le_refl _) _⟩
  · simp [size_zeroCells, Value.cells, flat2_length, hV]; omega
  · simp only [Array.toList_append, List.append_assoc]
    rw [← List.append_assoc, List.take_append_of_le_length (by simp [flat2_length, hV]; omega), List.take_of_length_le (by simp [flat2_length, hV]; omega)]

set_option maxHeartbeats 2000000 in
set_option maxRecDepth 100000 in
/-- Up to the end, within the room. -/
theorem replace_b1 (g n cap gv cv i : Nat) (C : Array Value) (l vs : List (Int × Int)) (w : World) (hR : RowOf w g n cap C l) (hv : SpAt w gv cv vs) (hij : i < n) (hm : i + vs.length ≤ cap) (h5 : i + vs.length ≤ 100000) :
    Calls Try.prog 43 #[.slice (some ⟨g, 0, none⟩) n cap, .int .i64 i, .int .i64 n, .slice (some ⟨gv, 0, none⟩) vs.length cv] w (Replaced w g (i + vs.length) cap (l.take i ++ vs)) := by
  have hbig := hR.big
  unfold maxLen at hbig
  have hn := hR.room
  have hn5 := hR.n5
  have hCs := hR.size
  have hCL : C.toList.length = cap * 2 := by rw [← hCs]; simp
  have HR : Hid (RowOf w g n cap C l) := ⟨hR⟩
  have hv5 := hv.2.1
  obtain ⟨V, HVf⟩ : ∃ V, Hid (V = flat2 vs) := ⟨_, ⟨rfl⟩⟩
  have hVl : V.length = vs.length * 2 := by rw [HVf.out, flat2_length]
  have hV1 : ∀ v ∈ V, v.oneCell' = true := by rw [HVf.out]; exact flat2_one vs
  obtain ⟨L', HL'⟩ : ∃ L', Hid (L' = l.take i ++ vs) := ⟨_, ⟨rfl⟩⟩
  rw [← HL'.out]
  have hLl : L'.length = i + vs.length := by rw [HL'.out]; have := hR.len; simp; omega
  have hCt : (splice C.toList (i * 2) V).take ((i + vs.length) * 2) = flat2 L' := by
    have t1 := splice_take C.toList (i * 2) V (by omega)
    rw [show i * 2 + V.length = (i + vs.length) * 2 by omega] at t1
    rw [t1, HL'.out, flat2_append, flat2_take, HVf.out, ← hR.take, List.take_take, Nat.min_eq_left (by omega)]
  have hCs2 : (splice C.toList (i * 2) V).length = cap * 2 := by rw [length_splice _ _ _ (by omega), hCL]
  obtain ⟨m, hml⟩ : ∃ m, vs.length = m := ⟨_, rfl⟩
  rw [hml] at hm hVl hLl hCt hv5 h5 ⊢
  have happ := run_app_room w 58 g i cap gv m cv C V hR.row hCs hVl (fun j u hu => by rw [HVf.out] at hu; exact hv.src j u hu) hV1 hm
  have hr1 : Row (w.setRow g (splice C.toList (i * 2) V).toArray) g (splice C.toList (i * 2) V).toArray := setRow_row hR.row _
  have hg1 : w.grownBy (w.setRow g (splice C.toList (i * 2) V).toArray) (some g) := grown_setRow _ _ _
  obtain ⟨C1, HC1⟩ : ∃ C1, Hid (C1 = splice C.toList (i * 2) V) := ⟨_, ⟨rfl⟩⟩
  rw [← HC1.out] at happ hr1 hg1 hCt hCs2
  have HCt : Hid (C1.take ((i + m) * 2) = flat2 L') := ⟨hCt⟩
  have HCs2 : Hid (C1.length = cap * 2) := ⟨hCs2⟩
  have HLl : Hid (L'.length = i + m) := ⟨hLl⟩
  have HG1 : Hid (w.grownBy (w.setRow g C1.toArray) (some g)) := ⟨hg1⟩
  have h3 : ((i : Int) == (n : Int)) = false := by simp; omega
  have h6 : (i : Int) < (n : Int) := by omega
  have h7 : (n : Int) ≤ (cap : Int) := by omega
  have h8 : i ≠ cap := by omega
  by_cases hlt : i + m < n
  · have hltz : (i : Int) + (m : Int) < (n : Int) := by omega
    have hT2 : cap ≠ i + m := by omega
    have hcl := run_clearR (w.setRow g C1.toArray) 0 g ((i + m) * 2) (n - (i + m)) (cap - (i + m)) C1.toArray hr1 (by omega) (by rw [List.size_toArray]; have := HCs2.out; omega)
    have hcs : (splice C1 ((i + m) * 2) (List.replicate ((n - (i + m)) * 2) (Value.int .i64 0))).length = cap * 2 := by
      rw [length_splice _ _ _ (by rw [List.length_replicate]; omega)]; omega
    have HF : Hid (RowOf ((w.setRow g C1.toArray).setRow g (splice C1 ((i + m) * 2) (List.replicate ((n - (i + m)) * 2) (Value.int .i64 0))).toArray) g (i + m) cap (splice C1 ((i + m) * 2) (List.replicate ((n - (i + m)) * 2) (Value.int .i64 0))).toArray L') := ⟨⟨setRow_row hr1 _, by rw [List.size_toArray]; exact hcs, by
      rw [show (splice C1 ((i + m) * 2) (List.replicate ((n - (i + m)) * 2) (Value.int .i64 0))).toArray.toList = splice C1 ((i + m) * 2) (List.replicate ((n - (i + m)) * 2) (Value.int .i64 0)) from rfl, splice_take0 _ _ _ (by omega)]
      exact HCt.out, HLl.out, hm, hR.big, by omega⟩⟩
    have HG : Hid (w.grownBy ((w.setRow g C1.toArray).setRow g (splice C1 ((i + m) * 2) (List.replicate ((n - (i + m)) * 2) (Value.int .i64 0))).toArray) (some g)) := ⟨grown_trans hg1 (grown_setRow _ _ _)⟩
    clear hcs hr1 hg1 hCt hCs2 hLl hVl hCL hCs hR hv hV1
    go_enter Try.func43, Try.ntmps43
    go_wp2_with (at_builtin; refine wpl_app rfl (.tmp 32) (.tmp 33) rfl rfl rfl happ ?_; clear happ)
    go_ret
    exact ⟨rfl, ⟨_, HF.out⟩, HG.out⟩
  · have hltz : ¬ (i : Int) + (m : Int) < (n : Int) := by omega
    have HF : Hid (RowOf (w.setRow g C1.toArray) g (i + m) cap C1.toArray L') := ⟨⟨hr1, by rw [List.size_toArray]; exact hCs2, hCt, hLl, hm, hR.big, by omega⟩⟩
    clear hr1 hg1 hCt hCs2 hLl hVl hCL hCs hR hv hV1
    go_enter Try.func43, Try.ntmps43
    go_wp2_with (at_builtin; refine wpl_app rfl (.tmp 32) (.tmp 33) rfl rfl rfl happ ?_; clear happ)
    go_ret
    exact ⟨rfl, ⟨_, HF.out⟩, HG1.out⟩

theorem RowOf.src {w : World} {g n cap : Nat} {C : Array Value} {l : List (Int × Int)} (h : RowOf w g n cap C l) (i : Nat) : ∀ j u, (flat2 (l.take i))[j]? = some u → w.cell? ((⟨g, 0, none⟩ : Addr).add j) = some u := by
  intro j u hu
  have hadd : (⟨g, 0, none⟩ : Addr).add j = ⟨g, j, none⟩ := by unfold Addr.add; split <;> simp_all
  have hj : j < l.length * 2 := by
    rcases Nat.lt_or_ge j (l.length * 2) with h' | h'
    · exact h'
    · rw [flat2_take, List.getElem?_eq_none (by rw [List.length_take, flat2_length]; omega)] at hu; cases hu
  rw [hadd, h.row.cell]
  rw [flat2_take, List.getElem?_take] at hu
  split at hu
  · rw [← h.get j (by rw [← h.len]; exact hj)] at hu
    simpa using hu
  · cases hu

set_option maxHeartbeats 2000000 in
set_option maxRecDepth 100000 in
/-- Up to the end, beyond the room. -/
theorem replace_b2 (g n cap gv cv i : Nat) (C : Array Value) (l vs : List (Int × Int)) (w : World) (hR : RowOf w g n cap C l) (hv : SpAt w gv cv vs) (hij : i < n) (hm : cap < i + vs.length) (h5 : i + vs.length ≤ 100000) :
    Calls Try.prog 43 #[.slice (some ⟨g, 0, none⟩) n cap, .int .i64 i, .int .i64 n, .slice (some ⟨gv, 0, none⟩) vs.length cv] w (Repl w g (l.take i ++ vs)) := by
  have hbig := hR.big
  unfold maxLen at hbig
  have hn := hR.room
  have hn5 := hR.n5
  have hli : (l.take i).length = i := by have := hR.len; simp; omega
  obtain ⟨cap', C', w', happ, hr, hs, ht, hc1, hc2, hb⟩ := run_app_grow w 58 g i cap gv vs.length cv (l.take i) (flat2 vs) hli (hR.src i) (flat2_length vs) hv.src hm (by omega) (by omega)
  rw [← flat2_append] at ht
  obtain ⟨L', HL'⟩ : ∃ L', Hid (L' = l.take i ++ vs) := ⟨_, ⟨rfl⟩⟩
  have hLl : L'.length = i + vs.length := by rw [HL'.out, List.length_append, hli]
  rw [← HL'.out] at ht ⊢
  obtain ⟨m, hml⟩ : ∃ m, vs.length = m := ⟨_, rfl⟩
  rw [hml] at hm h5 happ ht hc1 hLl ⊢
  have HF : Hid (RowOf w' w.heap.size (i + m) cap' C' L') := ⟨⟨hr, hs, ht, hLl, hc1, hc2, h5⟩⟩
  have HG : Hid (w.grownBy w' (some g)) := ⟨grown_of_below hb⟩
  have HLl : Hid (L'.length = i + m) := ⟨hLl⟩
  have h3 : ((i : Int) == (n : Int)) = false := by simp; omega
  have h6 : (i : Int) < (n : Int) := by omega
  have h7 : (n : Int) ≤ (cap : Int) := by omega
  have h8 : i ≠ cap := by omega
  have hltz : ¬ (i : Int) + (m : Int) < (n : Int) := by omega
  clear hr hs ht hLl hc1 hc2 hb hR hv hli
  go_enter Try.func43, Try.ntmps43
  go_wp2_with (at_builtin; refine wpl_app rfl (.tmp 32) (.tmp 33) rfl rfl rfl happ ?_; clear happ)
  go_ret
  refine ⟨w.heap.size, cap', C', ?_, ?_, HG.out, .inr (Nat.le_refl _)⟩
  · rw [HLl.out]; rfl
  · rw [HLl.out]; exact HF.out
end Go.Proofs.Ytcmibcmndiplbab
