/- OpenF: what lists of strings read as, and how great each string is, where no bound on the whole is given. -/
import Derived.Test.YthloffgebebijaaOpenK
import Derived.SizedLaws
namespace Go.Proofs.Ythloffgebebijaa
open Go.ChangeShapes Go.WideShapes Go.ChangeAt Go.RowKit Go.Deep

theorem bytesC_raw : Try.prog.bytesOf 72 = 40 := by kernel_rfl
theorem bytesC_str : Try.prog.bytesOf 9 = 16 := by kernel_rfl
theorem bytesC_int : Try.prog.bytesOf 3 = 8 := by kernel_rfl
/-- A slice that is read: how long it is. -/
theorem lenC {H : Type} {enc : TypeId × Value → H} {W : World} {held : Bool} {fuel : Nat} {v : Value} {x : DataW H × List MemPlace} {t e : TypeId} (ht : Try.prog.underlying t = some (.slice e)) (h : DataW.trod enc Try.prog W 0 (fun _ => true) held fuel t [v] = some x) :
    ∃ a len cap, v = .slice a len cap ∧ (len = 0 ∨ ∃ es sp, x.1 = .slice es sp ∧ es.length = len) := by
  rcases open_slice ht h with ⟨hcs, _⟩ | ⟨a, len, cap, m, n, D, Pl, hcs, _, hl, _, hm, hx, hel⟩
  · simp at hcs
    subst hcs
    exact ⟨none, 0, 0, rfl, .inl rfl⟩
  · simp at hcs hm
    subst hcs
    subst hm
    exact ⟨some a, len, m, rfl, .inr ⟨_, _, by rw [hx], by simp⟩⟩

theorem weightsAll_mem {H : Type} {P : Program} {e : TypeId} {d : DataW H} {n : Nat} : ∀ {l : List (DataW H)}, d ∈ l → n ∈ d.weights P e → n ∈ DataW.weightsAll P e l
  | [], h, _ => by simp at h
  | x :: l, h, hn => by
    rw [DataW.weightsAll]
    rcases List.mem_cons.1 h with rfl | h
    · exact List.mem_append_left _ hn
    · exact List.mem_append_right _ (weightsAll_mem h hn)

/-- A slice that is read: its elements one by one. -/
theorem rowsF {H : Type} {enc : TypeId × Value → H} {W : World} {held : Bool} {fuel : Nat} {v : Value} {x : DataW H × List MemPlace} {t e : TypeId} {size : Nat} (ht : Try.prog.underlying t = some (.slice e)) (hs : Try.prog.cellsOf e = size) (hpos : 0 < size)
    (h : DataW.trod enc Try.prog W 0 (fun _ => true) held fuel t [v] = some x) :
    ∃ ao len cap, ∃ D : Nat → DataW H, v = .slice ao len cap ∧ (len = 0 ∨ ∃ sp, x.1 = .slice ((List.range len).map D) sp) ∧ (len = 0 ∨ ∃ b o, ao = some ⟨b, o, none⟩ ∧ b < W.heap.size ∧ ∀ i, i < len → ∃ (cs : List Value) (n : Nat) (pl : List MemPlace), cs.length = size ∧ (∀ j, j < size → W.cell? ⟨b, o + i * size + j, none⟩ = cs[j]?) ∧ DataW.trod enc Try.prog W 0 (fun _ => true) held n e cs = some (D i, pl)) := by
  rcases open_slice ht h with ⟨hcs, _⟩ | ⟨a, len, cap, m, n, D, Pl, hcs, _, hl, _, hm, hx, hel⟩
  · simp at hcs
    subst hcs
    exact ⟨none, 0, 0, fun _ => .nil, rfl, .inl rfl, .inl rfl⟩
  · simp at hcs hm
    subst hcs
    subst hm
    rw [hs] at hel
    refine ⟨some a, len, m, D, rfl, .inr ⟨_, by rw [hx]⟩, ?_⟩
    by_cases h0 : len = 0
    · exact .inl h0
    right
    obtain ⟨b, o, spot⟩ := a
    have hsp : spot = none := by
      obtain ⟨cs', c1, _⟩ := hel 0 (by omega)
      obtain ⟨_, hl', hc'⟩ := World.cells?_some c1
      have := hc' 0 (by omega)
      obtain ⟨u, hu⟩ : ∃ u, cs'[0]? = some u := ⟨cs'[0], List.getElem?_eq_getElem (by omega)⟩
      rw [hu] at this
      simpa [Addr.add] using World.cell?_spot this
    subst hsp
    refine ⟨b, o, rfl, ?_, fun i hi => ?_⟩
    · obtain ⟨cs', c1, _⟩ := hel 0 (by omega)
      obtain ⟨_, hl', hc'⟩ := World.cells?_some c1
      have := hc' 0 (by omega)
      obtain ⟨u, hu⟩ : ∃ u, cs'[0]? = some u := ⟨cs'[0], List.getElem?_eq_getElem (by omega)⟩
      rw [hu, addrC, addrC] at this
      exact block_lt_of_cell this
    · obtain ⟨cs', c1, c2⟩ := hel i (by omega)
      obtain ⟨_, hl', hc'⟩ := World.cells?_some c1
      refine ⟨cs', n, _, hl', fun j hj => ?_, c2⟩
      have := hc' j (by omega)
      rw [addrC, addrC] at this
      exact this

theorem strsF_open {H : Type} {enc : TypeId × Value → H} {W : World} {held : Bool} {fuel : Nat} {v : Value} {x : DataW H × List MemPlace} (h : DataW.trod enc Try.prog W 0 (fun _ => true) held fuel 36 [v] = some x) (hw : ∀ n ∈ DataW.weights Try.prog 36 x.1, n ≤ 140737488355328) :
    ∃ ss : List ByteArray, StrsR W W.heap.size v ss ∧ ∀ s ∈ ss, s.size ≤ 140737488355328 := by
  obtain ⟨ao, len, cap, D, rfl, hlen, hr⟩ := rowsF Try.underlying36 cellsC_str (by decide) h
  rcases hr with rfl | ⟨b, o, rfl, hb, hel⟩
  · exact ⟨[], ⟨_, _, rfl, .inl rfl⟩, by simp⟩
  · have each : ∀ i, i < len → ∃ s : ByteArray, W.cell? ⟨b, o + i, none⟩ = some (.string s) ∧ s.size ≤ 140737488355328 := by
      intro i hi
      obtain ⟨cs, n, pl, hl, hc, ht⟩ := hel i hi
      obtain ⟨st, w0, hst, _⟩ := DataW.trod_string Try.underlying9 ht
      subst w0
      have := hc 0 (by decide)
      simp at this
      refine ⟨st, this, ?_⟩
      have es : st.data.toList.length = st.size := by rw [Array.length_toList]; rfl
      have i4 : D i = .lit (.string st.data.toList) := by
        first
        | exact hst
        | exact (Prod.mk.inj hst).1
      rcases hlen with h0 | ⟨sp, hx⟩
      · omega
      · have hm : st.data.toList.length ∈ DataW.weights Try.prog 36 x.1 := by
          rw [hx, DataW.weights, Try.underlying36]
          refine List.mem_cons_of_mem _ (List.mem_append_left _ (weightsAll_mem (d := D i) (List.mem_map_of_mem (List.mem_range.2 hi)) ?_))
          rw [i4, DataW.weights]
          exact List.mem_singleton.2 rfl
        have := hw _ hm
        omega
    have hin : Inhabited ByteArray := ⟨⟨#[]⟩⟩
    obtain ⟨f, hf⟩ := choose_lt each
    refine ⟨(List.range len).map f, ⟨_, cap, by simp, .inr ⟨b, o, rfl, hb, fun i t hi => ?_⟩⟩, fun s hs => ?_⟩
    · obtain ⟨hlt, rfl⟩ := mapC_get hi
      exact (hf i hlt).1
    · obtain ⟨i, hi, rfl⟩ := List.mem_map.1 hs
      exact (hf i (List.mem_range.1 hi)).2

end Go.Proofs.Ythloffgebebijaa
