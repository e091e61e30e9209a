/- clear of a map. -/
import Derived.Test.YtmcikhdfpmkpnaaM2
namespace Go.Proofs.Ytmcikhdfpmkpnaa
open Go.RowKit Go.Maps Go.ChangeMaps Go.MapKept

theorem run_clear_map {P : Program} {w : World} {t kt e ty : TypeId} {b : Nat} {es : Array MapEntry} {clock : Nat} (ht : P.underlying t = some (.map kt e)) (hb : w.heap[b]? = some (.map es clock)) :
    (Builtin.clear_ #[t] ty #[.map (some b)]).run P w = .ok (.tuple #[]) (setBlock w b (.map #[] clock)) := by
  have hs : (setObj b (.map #[] clock)).run P w = .ok () (setBlock w b (.map #[] clock)) := run_setObj_map _ hb
  simp [Builtin.clear_, run_underlying ht, MapKept.run_getObj_map hb, hs, Result.andThen]
/-- 'clear(m)'. -/
theorem own_clear {P : Program} {w : World} {t kt e ty : TypeId} {b n : Nat} {D : DataW Value} (ht : P.underlying t = some (.map kt e)) (h : w.ownsMap P kt self b n D) :
    ∃ w', (Builtin.clear_ #[t] ty #[.map (some b)]).run P w = .ok (.tuple #[]) w' ∧ w'.ownsMap P kt self b 0 (.map []) ∧ w.mapTurned w' b := by
  obtain ⟨es, clock, hb, F, hs, rfl⟩ := h
  exact ⟨_, run_clear_map ht hb, ⟨#[], clock, heap_setBlock_same hb _, ⟨by simp, stamped_empty clock, by simp⟩, Nat.le_refl _, rfl⟩, ⟨es, clock, #[], clock, hb, rfl⟩⟩
end Go.Proofs.Ytmcikhdfpmkpnaa
