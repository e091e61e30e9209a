/- Package disk's unlessTripped, Trip, Write. -/
import Derived.Test.YtmcikhdfpmkpnaaD4
namespace Go.Proofs.Ytmcikhdfpmkpnaa
open Go.RowKit Go.Maps Go.Sort Go.Shelf

def dec (t : Int) : Int := if 1 < t then t - 1 else t

section
variable {w : World} {p g bm base : Nat} {d : Dk}
set_option maxHeartbeats 1000000 in
theorem unless_trip (h : At w p g bm base d) (hd : d.down = false) (ht : d.trip = 1) (fv : Value) :
    Calls Try.prog 35 #[.pointer (some ⟨p, 0, none⟩), fv] w fun e w' => e = .returned (.int .i64 7) ∧ At w' p g bm base { d with down := true } ∧ Chg [p] w w' := by
  obtain ⟨cap, tc, n, D, h⟩ := h
  obtain ⟨_, _, c2, _⟩ := h.cells
  have f3 := h.frozen 3
  obtain ⟨_, _, _, c3, _⟩ := h.cells
  have htc : tc = 1 := by rw [h.trip hd, ht]
  subst htc
  have HR : Hid (At (w.setCell ⟨p, 3, none⟩ (.bool true)) p g bm base { d with down := true } ∧ Chg [p] w (w.setCell ⟨p, 3, none⟩ (.bool true))) := ⟨(h.setDown true d.trip (fun e => by cases e)).at, (Chg.refl [p] w).setCell (.inl (by simp)) _⟩
  clear h
  go_enter Try.func35, Try.ntmps35
  go_wp2
  go_ret
  exact ⟨rfl, HR.out⟩

set_option maxHeartbeats 1000000 in
theorem unless_step (h : At w p g bm base d) (hd : d.down = false) (ht : d.trip ≠ 1) (f : FuncId) (cs lb : Array Value) (eg : ∀ args w, (callFunc f args).run Try.prog w = .ok (.enter f args) w) (R : World → Prop)
    (hs : ∀ W, At W p g bm base { d with trip := dec d.trip } → Chg [p] w W → Calls Try.prog f (cs ++ lb) W fun e w' => e = .returned (.tuple #[]) ∧ R w') :
    Calls Try.prog 35 #[.pointer (some ⟨p, 0, none⟩), .func (.func f) cs lb] w fun e w' => e = .returned (.int .i64 0) ∧ R w' := by
  obtain ⟨cap, tc, n, D, h⟩ := h
  obtain ⟨_, _, c2, _⟩ := h.cells
  have f2 := h.frozen 2
  have hr := h.rng
  have htc := h.trip hd
  subst htc
  have hne : ¬ d.trip = 1 := ht
  by_cases hgt : 1 < d.trip
  · have hw : wrap64 (d.trip - 1) = d.trip - 1 := IntWalk.wrap64_in _ ⟨by omega, by omega⟩
    have hdec : dec d.trip = d.trip - 1 := if_pos hgt
    rw [hdec] at hs
    have t := hs (w.setCell ⟨p, 2, none⟩ (.int .i64 (d.trip - 1))) (h.setTrip _ _ (fun _ => rfl) ⟨by omega, by omega⟩).at ((Chg.refl [p] w).setCell (.inl (by simp)) _)
    clear h hs
    generalize d.trip = tr at *
    go_enter Try.func35, Try.ntmps35
    go_wp2_with fail
    refine t.mono ?_
    rintro e w1 ⟨rfl, hR⟩
    go_wp2
    go_ret
    exact ⟨rfl, hR⟩
  · have hdec : dec d.trip = d.trip := if_neg hgt
    rw [hdec] at hs
    have t := hs w h.at (Chg.refl [p] w)
    clear h hs
    generalize d.trip = tr at *
    go_enter Try.func35, Try.ntmps35
    go_wp2_with fail
    refine t.mono ?_
    rintro e w1 ⟨rfl, hR⟩
    go_wp2
    go_ret
    exact ⟨rfl, hR⟩

/-- Trip. -/
def trpE (d : Dk) (n : Int) : Int := if d.down then 7 else if n < 0 then 2 else 0
def trpD (d : Dk) (n : Int) : Dk := if d.down then d else if n < 0 then d else { d with trip := n }
set_option maxHeartbeats 1000000 in
theorem trip_any (h : At w p g bm base d) (n : Int) (hn : n ≤ 9223372036854775807) :
    Calls Try.prog 18 #[.pointer (some ⟨p, 0, none⟩), .int .i64 n] w fun e w' => e = .returned (.int .i64 (trpE d n)) ∧ At w' p g bm base (trpD d n) ∧ Chg [p] w w' := by
  have t := ready_any h
  obtain ⟨cap, tc, m, D, h⟩ := h
  obtain ⟨_, _, c2, _⟩ := h.cells
  have f2 := h.frozen 2
  unfold trpE trpD
  cases hd : d.down with
  | true =>
    rw [hd] at t
    have HA : Hid (At w p g bm base d) := ⟨h.at⟩
    clear h
    go_enter Try.func18, Try.ntmps18
    go_wp2_with (go_at_call 33; refine t.mono ?_; rintro e w' ⟨rfl, rfl⟩)
    go_ret
    exact ⟨rfl, HA.out, Chg.refl _ _⟩
  | false =>
    rw [hd] at t
    by_cases hn0 : n < 0
    · have HA : Hid (At w p g bm base d) := ⟨h.at⟩
      clear h
      go_enter Try.func18, Try.ntmps18
      go_wp2_with (go_at_call 33; refine t.mono ?_; rintro e w' ⟨rfl, rfl⟩)
      go_ret
      exact ⟨rfl, HA.out, Chg.refl _ _⟩
    · have HR : Hid (At (w.setCell ⟨p, 2, none⟩ (.int .i64 n)) p g bm base { d with trip := n }) := ⟨(h.setTrip n n (fun _ => rfl) ⟨by omega, hn⟩).at⟩
      clear h
      go_enter Try.func18, Try.ntmps18
      go_wp2_with (go_at_call 33; refine t.mono ?_; rintro e w' ⟨rfl, rfl⟩)
      go_ret
      exact ⟨rfl, by rw [hd] at HR; exact HR.out, (Chg.refl [p] w).setCell (.inl (by simp)) _⟩
end
end Go.Proofs.Ytmcikhdfpmkpnaa
