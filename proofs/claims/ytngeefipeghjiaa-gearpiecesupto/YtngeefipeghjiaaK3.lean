/- Package gear's Write, End. -/
import Derived.Test.YtngeefipeghjiaaK2
namespace Go.Proofs.Ytngeefipeghjiaa
open Go.RowKit

theorem ready_nil (w : World) : Calls Try.prog 26 #[.pointer none] w fun e w' => e = .returned (.int .i64 1) ∧ w = w' := by
  go_enter Try.func26, Try.ntmps26
  go_wp2
  go_ret
  exact ⟨rfl, rfl⟩
theorem held_nil (w : World) : Calls Try.prog 21 #[.pointer none] w fun e w' => e = .returned (.int .i64 0) ∧ w = w' := by
  go_enter Try.func21, Try.ntmps21
  go_wp2
  go_ret
  exact ⟨rfl, rfl⟩
theorem write_nil (pv : Value) (w : World) : Calls Try.prog 19 #[.pointer none, pv] w fun e w' => e = .returned (.tuple #[.slice none 0 0, .int .i64 1]) ∧ w = w' := by
  have t := ready_nil w
  go_enter Try.func19, Try.ntmps19
  go_wp2_with (go_at_call 26; refine t.mono ?_; rintro e w' ⟨rfl, rfl⟩)
  go_ret2
  exact ⟨rfl, rfl⟩
theorem end_nil (w : World) : Calls Try.prog 22 #[.pointer none] w fun e w' => e = .returned (.tuple #[.slice none 0 0, .int .i64 1]) ∧ w = w' := by
  have t := ready_nil w
  go_enter Try.func22, Try.ntmps22
  go_wp2_with (go_at_call 26; refine t.mono ?_; rintro e w' ⟨rfl, rfl⟩)
  go_ret2
  exact ⟨rfl, rfl⟩
theorem fork_nil (w : World) : Calls Try.prog 23 #[.pointer none] w fun e w' => e = .returned (.pointer none) ∧ w = w' := by
  go_enter Try.func23, Try.ntmps23
  go_wp2
  go_ret
  exact ⟨rfl, rfl⟩
section
variable {w : World} {p : Nat} {mn mx lo : Int} {T : Nat → Int} {cs : Array Value} {v : Value} {l : List Int} {hh : Int}
theorem write_over (h : CutAt w p 0 mn mx lo T cs v l hh true) (pv : Value) : Calls Try.prog 19 #[.pointer (some ⟨p, 0, none⟩), pv] w fun e w' => e = .returned (.tuple #[.slice none 0 0, .int .i64 12]) ∧ w = w' := by
  have t := ready_any ((h.cell 261).trans h.c6)
  clear h
  go_enter Try.func19, Try.ntmps19
  go_wp2_with (go_at_call 26; refine t.mono ?_; rintro e w' ⟨rfl, rfl⟩)
  go_ret2
  exact ⟨rfl, rfl⟩
theorem end_over (h : CutAt w p 0 mn mx lo T cs v l hh true) : Calls Try.prog 22 #[.pointer (some ⟨p, 0, none⟩)] w fun e w' => e = .returned (.tuple #[.slice none 0 0, .int .i64 12]) ∧ w = w' := by
  have t := ready_any ((h.cell 261).trans h.c6)
  clear h
  go_enter Try.func22, Try.ntmps22
  go_wp2_with (go_at_call 26; refine t.mono ?_; rintro e w' ⟨rfl, rfl⟩)
  go_ret2
  exact ⟨rfl, rfl⟩
theorem write_any (h : CutAt w p 0 mn mx lo T cs v l (hsh T l) false) (hmx : mx ≤ 512) (hl : l.length ≤ 512) (hbl : Byt l) (pv : Value) (ps : List Int) (hp : Bs w pv ps) (hsep : 0 < ps.length → ∀ k, pv.ownBlock = some k → k ∉ p :: ob v) (hps : ps.length ≤ 1000000000000) :
    Calls Try.prog 19 #[.pointer (some ⟨p, 0, none⟩), pv] w fun e w' => ∃ rv cs' v', e = .returned (.tuple #[rv, .int .i64 0]) ∧ OwnR w' (Ck v w.heap.size v') 0 rv (feed (endL mn mx lo T) l ps).1 ∧ (∀ k ∈ ob rv, w.heap.size ≤ k) ∧ CutAt w' p 0 mn mx lo T cs' v' (feed (endL mn mx lo T) l ps).2 (hsh T (feed (endL mn mx lo T) l ps).2) false ∧ Chg (p :: ob v) w w' ∧ (∀ k ∈ ob v', k ∈ ob v ∨ w.heap.size ≤ k) := by
  have t := ready_any ((h.cell 261).trans h.c6)
  have t2 := chunks_any h hmx hl hbl pv ps hp hsep hps
  clear h
  go_enter Try.func19, Try.ntmps19
  go_wp2_with (first | (go_at_call 26; refine t.mono ?_; rintro e w' ⟨rfl, rfl⟩) | (go_at_call 27; refine t2.mono ?_; rintro e w' ⟨rv, cs', v', rfl, hX⟩; have HX := Hid.mk hX; clear hX; obtain ⟨vs, hO1, hO2⟩ := HX.out.1; obtain ⟨a7, c7, rfl, _⟩ := own_rd hO1; clear hO1 hO2))
  go_ret2
  exact ⟨_, cs', v', rfl, HX.out⟩
set_option maxHeartbeats 1000000 in
theorem end_any (h : CutAt w p 0 mn mx lo T cs v l hh false) : Calls Try.prog 22 #[.pointer (some ⟨p, 0, none⟩)] w fun e w' => ∃ cs', e = .returned (.tuple #[v, .int .i64 0]) ∧ CutAt w' p 0 mn mx lo T cs' (.slice none 0 0) [] 0 true ∧ OwnB w' 0 v l ∧ Chg [p] w w' := by
  have t := ready_any ((h.cell 261).trans h.c6)
  have hD := h.done true
  have c261 := (h.cell 261).trans h.c6
  have f261 := h.frozen 261
  have hr := (hD.put (Chg.refl _ _) (own_nilB _)).hash 0
  obtain ⟨ao, cap, rfl, _⟩ := OwnB.mine h.own
  have t2 := release_any hD.row hD.c4 hD.c5
  have HR : Hid (∃ w2, w2 = ((w.setCell ⟨p, 261, none⟩ (.bool true)).setCell ⟨p, 259, none⟩ (.slice none 0 0)).setCell ⟨p, 260, none⟩ (.int .u32 0) ∧ (∃ cs', CutAt w2 p 0 mn mx lo T cs' (.slice none 0 0) [] 0 true) ∧ OwnB w2 0 (.slice ao l.length cap) l ∧ Chg [p] w w2) := ⟨_, rfl, ⟨_, hr⟩, by
    have hc : Chg [p] (w.setCell ⟨p, 261, none⟩ (.bool true)) (((w.setCell ⟨p, 261, none⟩ (.bool true)).setCell ⟨p, 259, none⟩ (.slice none 0 0)).setCell ⟨p, 260, none⟩ (.int .u32 0)) := ((Chg.refl [p] _).setCell (.inl (by simp)) _).setCell (.inl (by simp)) _
    exact own_far hD.own hc (fun g hg hm => by simp at hm; subst hm; exact hD.sep (mem_ob.2 hg)), (((Chg.refl [p] w).setCell (.inl (by simp)) _).setCell (.inl (by simp)) _).setCell (.inl (by simp)) _⟩
  clear h hD hr
  go_enter Try.func22, Try.ntmps22
  go_wp2_with (first | (go_at_call 26; refine t.mono ?_; rintro e w' ⟨rfl, rfl⟩) | (go_at_call 29; refine t2.mono ?_; rintro e w' ⟨rfl, rfl⟩))
  obtain ⟨w2, rfl, ⟨cs', h1⟩, h2, h3⟩ := HR.out
  go_ret2
  exact ⟨cs', rfl, h1, h2, h3⟩
end
end Go.Proofs.Ytngeefipeghjiaa
