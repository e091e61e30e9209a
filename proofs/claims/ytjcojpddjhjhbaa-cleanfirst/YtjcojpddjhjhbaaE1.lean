/- For the law CleanAll: a row of containers of the call's own, and who is chosen by 100 percent. -/
import Derived.Test.YtjcojpddjhjhbaaC17
namespace Go.Proofs.Ytjcojpddjhjhbaa
open Go.RowKit Go.Lib

abbrev Fx := Fl × Value
def fx2 (x : Fx) : List Value := [.int .i64 x.1.1, x.2]
def x0 : Fx := (f0, .slice none 0 0)
theorem eltF : Elt Try.prog 22 39 2 32 := by
  have h1 : ((Try.prog.info? 39).map (fun i => (i.size, i.bytes, (i.zero.map (fun z => z.cells.size))))) = some (2, 32, some 2) := by kernel_rfl
  refine ⟨Try.underlying22, ?_, by decide⟩
  cases hi : Try.prog.info? 39 with
  | none => rw [hi] at h1; simp at h1
  | some i =>
    rw [hi] at h1
    simp at h1
    obtain ⟨h1, h2, z, h3, h4⟩ := h1
    exact ⟨i, z, rfl, h3, h1, h2, h4⟩
theorem rdf_of {w : World} {v : Value} {G : List Fx} (h : RdE fx2 2 x0 w v G) (hi : ∀ x ∈ G, RdI w x.2 x.1.2) : RdF w v (G.map (·.1)) := by
  obtain ⟨a, c, rfl, h1, h2, h3⟩ := h.shape
  refine ⟨⟨a, c, by simp, by simpa using h1, h2, h3⟩, fun i hi' => ?_⟩
  have hi2 : i < G.length := by simpa using hi'
  obtain ⟨b, off, cap, e, hc⟩ := h.at' i hi2
  have e2 : (G.map (·.1)).getD i f0 = (G.getD i x0).1 := by simp [List.getD, List.getElem?_eq_getElem hi2]
  have c0 := hc 0 (by decide)
  have c1 := hc 1 (by decide)
  rw [e2]
  refine ⟨b, off, cap, (G.getD i x0).2, ?_, ?_, ?_, hi _ (getD_mem' hi2)⟩
  · simpa using e
  · exact c0
  · exact c1
theorem low_all {s : Sh} (hr : Rt s) : low 100 s = !(decide (0 < s.2.1) && decide (s.2.2 = s.2.1)) := by
  obtain ⟨h1, h2, h3⟩ := hr
  unfold low
  by_cases h0 : s.2.1 = 0
  · simp [h0]
  · rw [if_neg h0]
    have : 0 < s.2.1 := by omega
    by_cases h4 : s.2.2 = s.2.1
    · simp [this, h4]
    · have h5 : 100 * s.2.2 < 100 * s.2.1 := by omega
      rw [decide_eq_true h5, decide_eq_false h4]
      simp
theorem chosen {F S : List Sh} (hn : (F.map (·.1)).Nodup) (hp : S.Perm (F.filter (low 100))) {s : Sh} (hs : s ∈ F) : (S.map (·.1)).count s.1 = if low 100 s = true then 1 else 0 := by
  have h1 : (S.map (·.1)).count s.1 = ((F.filter (low 100)).map (·.1)).count s.1 := (hp.map _).count_eq _
  have hsub : ((F.filter (low 100)).map (·.1)).Sublist (F.map (·.1)) := (List.filter_sublist (p := low 100)).map _
  have h2 := List.nodup_iff_count.1 (hn.sublist hsub) s.1
  rw [h1]
  by_cases h3 : low 100 s = true
  · rw [if_pos h3]
    have : s.1 ∈ (F.filter (low 100)).map (·.1) := List.mem_map.2 ⟨s, List.mem_filter.2 ⟨hs, h3⟩, rfl⟩
    have := List.count_pos_iff.2 this
    omega
  · rw [if_neg h3]
    refine List.count_eq_zero.2 fun hm => ?_
    obtain ⟨t, ht, e⟩ := List.mem_map.1 hm
    obtain ⟨ht1, ht2⟩ := List.mem_filter.1 ht
    have : t = s := by
      have hpw : F.Pairwise (fun x y => x.1 ≠ y.1) := List.pairwise_map.1 hn
      rcases List.mem_iff_getElem.1 ht1 with ⟨i, hi, rfl⟩
      rcases List.mem_iff_getElem.1 hs with ⟨j, hj, rfl⟩
      rcases Nat.lt_trichotomy i j with h | h | h
      · exact absurd e (List.pairwise_iff_getElem.1 hpw i j hi hj h)
      · subst h; rfl
      · exact absurd e.symm (List.pairwise_iff_getElem.1 hpw j i hj hi h)
    subst this
    exact h3 ht2
def kn (G : List Fx) (y : Int) (k : Nat) : Bool := (G.take k).any fun x => x.1.1 == y
theorem kn_snoc {G : List Fx} {y : Int} {k : Nat} (h : k < G.length) : kn G y (k + 1) = (kn G y k || (G.getD k x0).1.1 == y) := by
  unfold kn
  rw [List.take_add_one, List.getElem?_eq_getElem h, List.any_append]
  simp [List.getD, List.getElem?_eq_getElem h]
theorem kn_end {G : List Fx} {y : Int} (h : kn G y G.length = false) (hn : (G.map (·.1.1)).Nodup) (x : Fx) (hx : x.1.1 = y) : ((G ++ [x]).map (·.1.1)).Nodup := by
  rw [List.map_append]
  refine List.nodup_append.2 ⟨hn, by simp, ?_⟩
  intro a ha b hb e
  simp at hb
  subst hb
  obtain ⟨g, hg, eg⟩ := List.mem_map.1 ha
  unfold kn at h
  rw [List.take_length, List.any_eq_false] at h
  have := h g hg
  simp at this
  exact this (by rw [eg, e, hx])
end Go.Proofs.Ytjcojpddjhjhbaa
