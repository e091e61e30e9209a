/- What live asks: Put of "aab", Lengths of 5, 2, 1 (plain mathematics). -/
import Derived.Test.YtfecngncapenjaaP3
namespace Go.Proofs.Ytfecngncapenjaa
open Oct

def gA : List Int := (z0.set 97 1).set 98 1
def cB : List Int := ((z0.set 97 5).set 98 2).set 99 1
def gB : List Int := ((z0.set 97 1).set 98 2).set 99 2
theorem T0_A : T0 (cnt [97, 97, 98]) 256 = [(2, 97, [97]), (1, 98, [98])] := by decide +kernel
theorem T0_B : T0 cB 256 = [(5, 97, [97]), (2, 98, [98]), (1, 99, [99])] := by decide +kernel
theorem lenA : LenS (cnt [97, 97, 98]) gA := by
  refine .inr ⟨by rw [T0_A]; decide, [(3, 97, [98, 97])], ?_, by decide⟩
  rw [T0_A]
  have h := RunA.step [(2, 97, [97]), (1, 98, [98])] [(3, 97, [98, 97])] [] (1, 98, [98]) (2, 97, [97]) z0 (.init _ (List.Perm.refl _)) (List.Perm.swap _ _ _) (by decide) (by decide) (List.Perm.refl _)
  have e : bump z0 (joinA (1, 98, [98]) (2, 97, [97])).2.2 = gA := by decide +kernel
  rw [e] at h
  exact h
theorem lenB : LenS cB gB := by
  refine .inr ⟨by rw [T0_B]; decide, [(8, 97, [99, 98, 97])], ?_, by decide⟩
  rw [T0_B]
  have h1 := RunA.step [(5, 97, [97]), (2, 98, [98]), (1, 99, [99])] [(3, 98, [99, 98]), (5, 97, [97])] [(5, 97, [97])] (1, 99, [99]) (2, 98, [98]) z0 (.init _ (List.Perm.refl _)) (by decide) (by decide) (by decide) (List.Perm.refl _)
  have h2 := RunA.step [(3, 98, [99, 98]), (5, 97, [97])] [(8, 97, [99, 98, 97])] [] (3, 98, [99, 98]) (5, 97, [97]) _ h1 (List.Perm.refl _) (by decide) (by decide) (List.Perm.refl _)
  have e : bump (bump z0 (joinA (1, 99, [99]) (2, 98, [98])).2.2) (joinA (3, 98, [99, 98]) (5, 97, [97])).2.2 = gB := by decide +kernel
  rw [e] at h2
  exact h2
theorem byA : By [97, 97, 98] := fun x hx => by simp at hx; omega
theorem put_aab {out : List Int} (h : PutS [97, 97, 98] out) : out = [3, 2, 97, 1, 98, 1, 32] := by
  obtain ⟨g, hg, rfl⟩ := h
  have e : g = gA := hg.det (T0_fine (cnt_len _) (cnt_bad byA (by decide))) lenA
  subst e
  have e1 : hdR gA 256 = [97, 1, 98, 1] := by decide +kernel
  have e2 : pbits gA [97, 97, 98] = [0, 0, 1] := by decide +kernel
  have e3 : hdB gA ([97, 97, 98] : List Int).length = [3, 2, 97, 1, 98, 1] := by
    unfold hdB
    rw [e1, numB_small _ (by decide), numB_small _ (by decide)]
    rfl
  rw [e2, e3]
  decide
theorem cB_len : cB.length = 256 := by unfold cB; rw [List.length_set, List.length_set, List.length_set, z0_len]
theorem cB_bad : cB.any bad = false := by decide +kernel
theorem len_B {g : List Int} (h : LenS cB g) : g = gB := h.det (T0_fine cB_len cB_bad) lenB
end Go.Proofs.Ytfecngncapenjaa
