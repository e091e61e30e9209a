/- Package extent's told: of each span what a function says. -/
import Derived.Test.YtcmibcmndiplbabX4
namespace Go.Proofs.Ytcmibcmndiplbab
open Go.RowKit Go.Lib

theorem take_succ_getD {α β : Type} [Inhabited α] (f : α → β) (l : List α) (k : Nat) (hk : k < l.length) : (l.take (k + 1)).map f = (l.take k).map f ++ [f (l.getD k default)] := by
  rw [List.take_add_one, List.getElem?_eq_getElem hk, List.map_append]
  simp only [Option.toList, List.map_cons, List.map_nil, List.getD, List.getElem?_eq_getElem hk, Option.getD_some]

set_option maxHeartbeats 2000000 in
theorem told_any (g : Nat) (f : Int × Int → Int) (eg : ∀ args w, (callFunc g args).run Try.prog w = .ok (.enter g args) w) (b cap : Nat) (l : List (Int × Int)) (w : World) (hl : SpAt w b cap l) (hs : l.length ≤ 100000) (hp : Tells g (fun x => .int .i64 (f x)) w) :
    Calls Try.prog 25 #[.slice (some ⟨b, 0, none⟩) l.length cap, .func (.func g) #[] #[]] w fun e w' => ∃ v, e = .returned v ∧ OwnI w' w.heap.size v (l.map f) ∧ Below w.heap.size w w' := by
  obtain ⟨n, hn⟩ : ∃ n, l.length = n := ⟨_, rfl⟩
  have HL : Hid (SpAt w b cap l) := ⟨hl⟩
  have HP : Hid (Tells g (fun x => .int .i64 (f x)) w) := ⟨hp⟩
  have hb := hl.2.2.1
  rw [hn] at hs ⊢
  have hown0 : OwnI w w.heap.size (.slice none 0 0) ((l.take 0).map f) := World.ownsRow_nil _ _ _ _
  clear hl hp
  go_enter Try.func25, Try.ntmps25
  go_wp2
  go_loopg [5, 10] n (fun gg s5 s10 wr => ∃ kk : Nat, kk ≤ n ∧ n - kk ≤ gg ∧ s10 = .int .i64 kk ∧ Hid (Below w.heap.size w wr) ∧ OwnI wr w.heap.size s5 ((l.take kk).map f))
  case atStart => exact ⟨0, Nat.zero_le _, by omega, rfl, ⟨Below.refl _ w⟩, hown0⟩
  case round =>
    clear hown0
    obtain ⟨kk, hkk, hg, rfl, BW, hO⟩ := hrel
    by_cases hlt : kk < n
    · have hltz : (kk : Int) < (n : Int) := by omega
      have h2 := (HL.out.below BW.out).2.2.2 kk (by omega)
      have c1 := h2.1
      have c2 := h2.2
      have HT : Hid ((l.take (kk + 1)).map f = (l.take kk).map f ++ [f (l.getD kk default)]) := ⟨take_succ_getD f l kk (by omega)⟩
      clear h2
      generalize l.getD kk default = y at c1 c2 HT
      have HO : Hid (OwnI wr w.heap.size u5 ((l.take kk).map f)) := ⟨hO⟩
      clear hO
      have hcall := HP.out (wr.alloc (.cells #[.int .i64 y.1, .int .i64 y.2] 57)) y (BW.out.alloc BW.out.size _)
      unfold sp at hcall
      go_wp2_with fail
      refine hcall.mono ?_
      rintro e w' ⟨rfl, hb'⟩
      have HO' : Hid (OwnI w' w.heap.size u5 ((l.take kk).map f)) := ⟨owns_below (World.ownsRow.alloc HO.out _) hb'⟩
      have hbw : Below w.heap.size w w' := (BW.out.alloc BW.out.size _).trans (hb'.mono (by have := BW.out.size; simp; omega))
      have hsz := hbw.size
      have hlen : ((l.take kk).map f).length ≤ 1000000 := by simp; omega
      clear hcall HO hb' c1 c2
      go_wp2_with (at_builtin; refine wp_app1I rfl (.tmp 14) (.tmp 18) rfl rfl HO'.out rfl hlen hsz ?_; intro v' w'' hv' hb2)
      have hbz := hbw.trans (hb2)
      go_roundg (n - (kk + 1))
      case measure => omega
      case rel => exact ⟨kk + 1, by omega, by omega, by go_num, ⟨hbz⟩, by rw [HT.out]; exact hv'⟩
    · go_wp2
      go_ret
      exact ⟨_, rfl, by rw [show kk = l.length by omega, List.take_length] at hO; exact hO, BW.out⟩
set_option maxHeartbeats 2000000 in
theorem toldR_any (g : Nat) (f : Int × Int → Int × Int) (eg : ∀ args w, (callFunc g args).run Try.prog w = .ok (.enter g args) w) (b cap : Nat) (l : List (Int × Int)) (w : World) (hl : SpAt w b cap l) (hs : l.length ≤ 100000) (hp : Tells g (fun x => sp (f x)) w) :
    Calls Try.prog 35 #[.slice (some ⟨b, 0, none⟩) l.length cap, .func (.func g) #[] #[]] w fun e w' => ∃ v, e = .returned v ∧ Own2 w' w.heap.size 43 v (l.map f) ∧ Below w.heap.size w w' := by
  obtain ⟨n, hn⟩ : ∃ n, l.length = n := ⟨_, rfl⟩
  have HL : Hid (SpAt w b cap l) := ⟨hl⟩
  have HP : Hid (Tells g (fun x => sp (f x)) w) := ⟨hp⟩
  have hb := hl.2.2.1
  rw [hn] at hs ⊢
  have hown0 : Own2 w w.heap.size 43 (.slice none 0 0) ((l.take 0).map f) := World.ownsRow_nil _ _ _ _
  clear hl hp
  go_enter Try.func35, Try.ntmps35
  go_wp2
  go_loopg [5, 10] n (fun gg s5 s10 wr => ∃ kk : Nat, kk ≤ n ∧ n - kk ≤ gg ∧ s10 = .int .i64 kk ∧ Hid (Below w.heap.size w wr) ∧ Own2 wr w.heap.size 43 s5 ((l.take kk).map f))
  case atStart => exact ⟨0, Nat.zero_le _, by omega, rfl, ⟨Below.refl _ w⟩, hown0⟩
  case round =>
    clear hown0
    obtain ⟨kk, hkk, hg, rfl, BW, hO⟩ := hrel
    by_cases hlt : kk < n
    · have hltz : (kk : Int) < (n : Int) := by omega
      have h2 := (HL.out.below BW.out).2.2.2 kk (by omega)
      have c1 := h2.1
      have c2 := h2.2
      have HT : Hid ((l.take (kk + 1)).map f = (l.take kk).map f ++ [f (l.getD kk default)]) := ⟨take_succ_getD f l kk (by omega)⟩
      clear h2
      generalize l.getD kk default = y at c1 c2 HT
      have HO : Hid (Own2 wr w.heap.size 43 u5 ((l.take kk).map f)) := ⟨hO⟩
      clear hO
      have hcall := HP.out (wr.alloc (.cells #[.int .i64 y.1, .int .i64 y.2] 57)) y (BW.out.alloc BW.out.size _)
      unfold sp at hcall
      go_wp2_with fail
      refine hcall.mono ?_
      rintro e w' ⟨rfl, hb'⟩
      have HO' : Hid (Own2 w' w.heap.size 43 u5 ((l.take kk).map f)) := ⟨owns_below (World.ownsRow.alloc HO.out _) hb'⟩
      have hbw : Below w.heap.size w w' := (BW.out.alloc BW.out.size _).trans (hb'.mono (by have := BW.out.size; simp; omega))
      have hsz := hbw.size
      have hlen : ((l.take kk).map f).length ≤ 1000000 := by simp; omega
      clear hcall HO hb' c1 c2
      go_wp2_with (at_builtin; refine wp_app1R rfl (.tmp 14) (.tmp 18) rfl rfl HO'.out rfl hlen hsz ?_; intro v' w'' hv' hb2)
      have hbz := hbw.trans (hb2)
      go_roundg (n - (kk + 1))
      case measure => omega
      case rel => exact ⟨kk + 1, by omega, by omega, by go_num, ⟨hbz⟩, by rw [HT.out]; exact hv'⟩
    · go_wp2
      go_ret
      exact ⟨_, rfl, by rw [show kk = l.length by omega, List.take_length] at hO; exact hO, BW.out⟩
end Go.Proofs.Ytcmibcmndiplbab
