/- slices.Insert over rows of spans. -/
import Derived.Test.YtcmibcmndiplbabY5
import Derived.Test.YtcmibcmndiplbabY6
namespace Go.Proofs.Ytcmibcmndiplbab
open Go.RowKit Go.Lib Go.Shelf

set_option maxHeartbeats 2000000 in
set_option maxRecDepth 100000 in
/-- At the end, within the room. -/
theorem insert_a1 (g n cap gv cv : Nat) (C : Array Value) (l vs : List (Int × Int)) (w : World) (hR : RowOf w g n cap C l) (hv : SpAt w gv cv vs) (h0 : 0 < vs.length) (hm : n + vs.length ≤ cap) (h5 : n + vs.length ≤ 100000) :
    Calls Try.prog 49 #[.slice (some ⟨g, 0, none⟩) n cap, .int .i64 n, .slice (some ⟨gv, 0, none⟩) vs.length cv] w (Replaced w g (n + vs.length) cap (l ++ vs)) := by
  have hbig := hR.big
  unfold maxLen at hbig
  have hn := hR.room
  have hn5 := hR.n5
  have hCs := hR.size
  have hCL : C.toList.length = cap * 2 := by rw [← hCs]; simp
  obtain ⟨V, HVf⟩ : ∃ V, Hid (V = flat2 vs) := ⟨_, ⟨rfl⟩⟩
  have hVl : V.length = vs.length * 2 := by rw [HVf.out, flat2_length]
  obtain ⟨L', HL'⟩ : ∃ L', Hid (L' = l ++ vs) := ⟨_, ⟨rfl⟩⟩
  rw [← HL'.out]
  have hLl : L'.length = n + vs.length := by rw [HL'.out]; have := hR.len; simp; omega
  have hCt : (splice C.toList (n * 2) V).take ((n + vs.length) * 2) = flat2 L' := by
    have t1 := splice_take C.toList (n * 2) V (by omega)
    rw [show n * 2 + V.length = (n + vs.length) * 2 by omega] at t1
    rw [t1, HL'.out, flat2_append, HVf.out, hR.take]
  have hCs2 : (splice C.toList (n * 2) V).length = cap * 2 := by rw [length_splice _ _ _ (by omega), hCL]
  have happ := run_app_room w 58 g n cap gv vs.length cv C V hR.row hCs hVl (fun j u hu => by rw [HVf.out] at hu; exact hv.src j u hu) (by rw [HVf.out]; exact flat2_one vs) hm
  have HF : Hid (RowOf (w.setRow g (splice C.toList (n * 2) V).toArray) g (n + vs.length) cap (splice C.toList (n * 2) V).toArray L') := ⟨⟨setRow_row hR.row _, by rw [List.size_toArray]; exact hCs2, hCt, hLl, hm, hR.big, h5⟩⟩
  have HG : Hid (w.grownBy (w.setRow g (splice C.toList (n * 2) V).toArray) (some g)) := ⟨grown_setRow _ _ _⟩
  obtain ⟨m, hml⟩ : ∃ m, vs.length = m := ⟨_, rfl⟩
  rw [hml] at happ HF h0 hm h5 ⊢
  have z1 : ((m : Int) == 0) = false := by simp; omega
  have h7 : (n : Int) ≤ (cap : Int) := by omega
  clear hCs2 hCt hLl hVl hCL hCs hR hv
  go_enter Try.func49, Try.ntmps49
  go_wp2_with (at_builtin; refine wpl_app rfl (.tmp 23) (.tmp 24) rfl rfl rfl happ ?_; clear happ)
  all_goals go_ret
  all_goals exact ⟨rfl, ⟨_, HF.out⟩, HG.out⟩

set_option maxHeartbeats 2000000 in
set_option maxRecDepth 100000 in
/-- At the end, beyond the room. -/
theorem insert_a2 (g n cap gv cv : Nat) (C : Array Value) (l vs : List (Int × Int)) (w : World) (hR : RowOf w g n cap C l) (hv : SpAt w gv cv vs) (h0 : 0 < vs.length) (hm : cap < n + vs.length) (h5 : n + vs.length ≤ 100000) :
    Calls Try.prog 49 #[.slice (some ⟨g, 0, none⟩) n cap, .int .i64 n, .slice (some ⟨gv, 0, none⟩) vs.length cv] w (Repl w g (l ++ vs)) := by
  have hbig := hR.big
  unfold maxLen at hbig
  have hn := hR.room
  have hn5 := hR.n5
  obtain ⟨cap', C', w', happ, hr, hs, ht, hc1, hc2, hb⟩ := run_app_grow w 58 g n cap gv vs.length cv l (flat2 vs) hR.len (by have := hR.src n; rwa [List.take_of_length_le (by rw [hR.len]; exact Nat.le_refl _)] at this) (flat2_length vs) hv.src hm (by omega) (by omega)
  rw [← flat2_append] at ht
  obtain ⟨L', HL'⟩ : ∃ L', Hid (L' = l ++ vs) := ⟨_, ⟨rfl⟩⟩
  have hLl : L'.length = n + vs.length := by rw [HL'.out, List.length_append, hR.len]
  rw [← HL'.out] at ht ⊢
  obtain ⟨m, hml⟩ : ∃ m, vs.length = m := ⟨_, rfl⟩
  rw [hml] at hm h5 happ ht hc1 hLl h0 ⊢
  have HF : Hid (RowOf w' w.heap.size (n + m) cap' C' L') := ⟨⟨hr, hs, ht, hLl, hc1, hc2, h5⟩⟩
  have HG : Hid (w.grownBy w' (some g)) := ⟨grown_of_below hb⟩
  have HLl : Hid (L'.length = n + m) := ⟨hLl⟩
  have z1 : ((m : Int) == 0) = false := by simp; omega
  have h7 : (n : Int) ≤ (cap : Int) := by omega
  clear hr hs ht hLl hc1 hc2 hb hR hv
  go_enter Try.func49, Try.ntmps49
  go_wp2_with (at_builtin; refine wpl_app rfl (.tmp 23) (.tmp 24) rfl rfl rfl happ ?_; clear happ)
  all_goals go_ret
  all_goals (
    refine ⟨w.heap.size, cap', C', ?_, ?_, HG.out, .inr (Nat.le_refl _)⟩
    · rw [HLl.out]; rfl
    · rw [HLl.out]; exact HF.out)
end Go.Proofs.Ytcmibcmndiplbab
