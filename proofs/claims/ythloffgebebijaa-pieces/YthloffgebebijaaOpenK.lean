/- OpenK: what the arguments of tillerkeep's statements read as: raw numbers, lists of raw tasks, of strings, of ints; how great they are. -/
import Derived.Test.YthloffgebebijaaCntB
import Derived.ProofKit
import Derived.Deep.Slices
namespace Go.Proofs.Ythloffgebebijaa
open Go.ChangeShapes Go.WideShapes Go.ChangeAt Go.RowKit Go.Deep

theorem Try.ownC : ownKnob Try.prog.godebug = none := by kernel_rfl
theorem Try.laidOutC : laidOutB Try.prog = true := by kernel_rfl
theorem cellsC_raw : Try.prog.cellsOf 72 = 5 := by kernel_rfl
theorem cellsC_str : Try.prog.cellsOf 9 = 1 := by kernel_rfl
theorem cellsC_int : Try.prog.cellsOf 3 = 1 := by kernel_rfl

theorem bulkC_one {H : Type} (d : DataW H) : 1 ≤ Rows.uptoBulk d := by
  cases d with
  | lit l => cases l <;> simp [Rows.uptoBulk]
  | nil => simp [Rows.uptoBulk]
  | ptr d => simp [Rows.uptoBulk]
  | slice elems spare => simp [Rows.uptoBulk]
  | agg parts => simp [Rows.uptoBulk]
  | iface t d => simp [Rows.uptoBulk]
  | map entries => simp [Rows.uptoBulk]
  | held h => simp [Rows.uptoBulk]
theorem bulkC_len {H : Type} (l : List (DataW H)) : l.length ≤ Rows.uptoBulkAll l := by
  induction l with
  | nil => simp [Rows.uptoBulkAll]
  | cons x r ih => have := bulkC_one x; simp only [Rows.uptoBulkAll, List.length_cons]; omega
theorem addrC {b o : Nat} (i : Nat) : (⟨b, o, none⟩ : Addr).add i = ⟨b, o + i, none⟩ := by
  by_cases h : i = 0
  · subst h; rfl
  · simp [Addr.add, h]

/-- A slice that is read: its elements one by one. -/
theorem rowsC {H : Type} {enc : TypeId × Value → H} {W : World} {held : Bool} {fuel : Nat} {v : Value} {x : DataW H × List MemPlace} {t e : TypeId} {size : Nat} (ht : Try.prog.underlying t = some (.slice e)) (hs : Try.prog.cellsOf e = size) (hpos : 0 < size)
    (h : DataW.trod enc Try.prog W 0 (fun _ => true) held fuel t [v] = some x) :
    ∃ ao len cap, ∃ D : Nat → DataW H, v = .slice ao len cap ∧ Rows.uptoBulkAll ((List.range len).map D) ≤ Rows.uptoBulk x.1 ∧ (len = 0 ∨ ∃ b o, ao = some ⟨b, o, none⟩ ∧ b < W.heap.size ∧ ∀ i, i < len → ∃ (cs : List Value) (n : Nat) (pl : List MemPlace), cs.length = size ∧ (∀ j, j < size → W.cell? ⟨b, o + i * size + j, none⟩ = cs[j]?) ∧ DataW.trod enc Try.prog W 0 (fun _ => true) held n e cs = some (D i, pl)) := by
  rcases open_slice ht h with ⟨hcs, _⟩ | ⟨a, len, cap, m, n, D, Pl, hcs, _, hl, _, hm, hx, hel⟩
  · simp at hcs
    subst hcs
    exact ⟨none, 0, 0, fun _ => .nil, rfl, by simp [Rows.uptoBulkAll], .inl rfl⟩
  · simp at hcs hm
    subst hcs
    subst hm
    rw [hs] at hel
    have hb : Rows.uptoBulkAll ((List.range len).map D) + 1 ≤ Rows.uptoBulk x.1 := by rw [hx]; simp only [Rows.uptoBulk]; omega
    refine ⟨some a, len, m, D, rfl, by omega, ?_⟩
    by_cases h0 : len = 0
    · exact .inl h0
    right
    obtain ⟨b, o, spot⟩ := a
    have hsp : spot = none := by
      obtain ⟨cs', c1, _⟩ := hel 0 (by omega)
      obtain ⟨_, hl', hc'⟩ := World.cells?_some c1
      have := hc' 0 (by omega)
      obtain ⟨u, hu⟩ : ∃ u, cs'[0]? = some u := ⟨cs'[0], List.getElem?_eq_getElem (by omega)⟩
      rw [hu] at this
      simpa [Addr.add] using World.cell?_spot this
    subst hsp
    refine ⟨b, o, rfl, ?_, fun i hi => ?_⟩
    · obtain ⟨cs', c1, _⟩ := hel 0 (by omega)
      obtain ⟨_, hl', hc'⟩ := World.cells?_some c1
      have := hc' 0 (by omega)
      obtain ⟨u, hu⟩ : ∃ u, cs'[0]? = some u := ⟨cs'[0], List.getElem?_eq_getElem (by omega)⟩
      rw [hu, addrC, addrC] at this
      exact block_lt_of_cell this
    · obtain ⟨cs', c1, c2⟩ := hel i (by omega)
      obtain ⟨_, hl', hc'⟩ := World.cells?_some c1
      refine ⟨cs', n, _, hl', fun j hj => ?_, c2⟩
      have := hc' j (by omega)
      rw [addrC, addrC] at this
      exact this

theorem mapC_get {α : Type} {f : Nat → α} {len i : Nat} {y : α} (h : ((List.range len).map f)[i]? = some y) : i < len ∧ f i = y := by
  have hlt := lt_of_get h
  simp at hlt
  exact ⟨hlt, by simpa [hlt] using h⟩

theorem intsC_open {H : Type} {enc : TypeId × Value → H} {W : World} {held : Bool} {fuel : Nat} {v : Value} {x : DataW H × List MemPlace} (h : DataW.trod enc Try.prog W 0 (fun _ => true) held fuel 37 [v] = some x) :
    ∃ ts : List Int, IntsK W W.heap.size v ts ∧ (∀ t ∈ ts, In64 t) ∧ ts.length ≤ Rows.uptoBulk x.1 := by
  obtain ⟨ao, len, cap, D, rfl, hlen, hr⟩ := rowsC Try.underlying37 cellsC_int (by decide) h
  have hl := bulkC_len ((List.range len).map D)
  simp only [List.length_map, List.length_range] at hl
  rcases hr with rfl | ⟨b, o, rfl, hb, hel⟩
  · exact ⟨[], ⟨_, _, rfl, .inl rfl⟩, by simp, by simp⟩
  · have each : ∀ i, i < len → ∃ t : Int, W.cell? ⟨b, o + i, none⟩ = some (.int .i64 t) ∧ In64 t := by
      intro i hi
      obtain ⟨cs, n, pl, hl, hc, ht⟩ := hel i hi
      obtain ⟨t, w0, _, i0⟩ := DataW.trod_int Try.underlying3 ht
      subst w0
      have := hc 0 (by decide)
      simp at this
      exact ⟨t, this, bounds_i64 i0⟩
    obtain ⟨f, hf⟩ := choose_lt each
    refine ⟨(List.range len).map f, ⟨_, cap, by simp, .inr ⟨b, o, rfl, hb, fun i t hi => ?_⟩⟩, fun t ht => ?_, by simp; omega⟩
    · obtain ⟨hlt, rfl⟩ := mapC_get hi
      exact (hf i hlt).1
    · obtain ⟨i, hi, rfl⟩ := List.mem_map.1 ht
      exact (hf i (List.mem_range.1 hi)).2

theorem strsC_sum {H : Type} (f : Nat → ByteArray) (D : Nat → DataW H) : ∀ l : List Nat, (∀ i ∈ l, (f i).size ≤ Rows.uptoBulk (D i)) → ((l.map f).map ByteArray.size).sum ≤ Rows.uptoBulkAll (l.map D)
  | [], _ => by simp
  | i :: l, h => by
    have h1 := h i (by simp)
    have h2 := strsC_sum f D l (fun j hj => h j (by simp [hj]))
    simp only [List.map_cons, List.sum_cons, Rows.uptoBulkAll]
    omega
theorem strsC_open {H : Type} {enc : TypeId × Value → H} {W : World} {held : Bool} {fuel : Nat} {v : Value} {x : DataW H × List MemPlace} (h : DataW.trod enc Try.prog W 0 (fun _ => true) held fuel 36 [v] = some x) :
    ∃ ss : List ByteArray, StrsR W W.heap.size v ss ∧ ss.length ≤ Rows.uptoBulk x.1 ∧ (ss.map ByteArray.size).sum ≤ Rows.uptoBulk x.1 := by
  obtain ⟨ao, len, cap, D, rfl, hlen, hr⟩ := rowsC Try.underlying36 cellsC_str (by decide) h
  have hl := bulkC_len ((List.range len).map D)
  simp only [List.length_map, List.length_range] at hl
  rcases hr with rfl | ⟨b, o, rfl, hb, hel⟩
  · exact ⟨[], ⟨_, _, rfl, .inl rfl⟩, by simp, by simp⟩
  · have each : ∀ i, i < len → ∃ s : ByteArray, W.cell? ⟨b, o + i, none⟩ = some (.string s) ∧ s.size ≤ Rows.uptoBulk (D i) := by
      intro i hi
      obtain ⟨cs, n, pl, hl, hc, ht⟩ := hel i hi
      obtain ⟨st, w0, hst, _⟩ := DataW.trod_string Try.underlying9 ht
      subst w0
      have := hc 0 (by decide)
      simp at this
      refine ⟨st, this, ?_⟩
      have es : st.data.toList.length = st.size := by rw [Array.length_toList]; rfl
      have i4 : Rows.uptoBulk (D i) = st.data.toList.length + 1 := by
        first
        | (rw [hst]; simp only [Rows.uptoBulk])
        | (have := (Prod.mk.inj hst).1; rw [this]; simp only [Rows.uptoBulk])
      omega
    have hin : Inhabited ByteArray := ⟨⟨#[]⟩⟩
    obtain ⟨f, hf⟩ := choose_lt each
    refine ⟨(List.range len).map f, ⟨_, cap, by simp, .inr ⟨b, o, rfl, hb, fun i t hi => ?_⟩⟩, by simp; omega, ?_⟩
    · obtain ⟨hlt, rfl⟩ := mapC_get hi
      exact (hf i hlt).1
    · exact Nat.le_trans (strsC_sum f D (List.range len) fun i hi => (hf i (List.mem_range.1 hi)).2) hlen

set_option maxRecDepth 100000 in
theorem rawsC_open {H : Type} {enc : TypeId × Value → H} {W : World} {held : Bool} {fuel : Nat} {v : Value} {x : DataW H × List MemPlace} (h : DataW.trod enc Try.prog W 0 (fun _ => true) held fuel 22 [v] = some x) :
    ∃ rs : List Raw5, Raws W W.heap.size v rs ∧ (∀ r ∈ rs, r.fits) ∧ rs.length ≤ Rows.uptoBulk x.1 := by
  obtain ⟨ao, len, cap, D, rfl, hlen, hr⟩ := rowsC Try.underlying22 cellsC_raw (by decide) h
  have hl := bulkC_len ((List.range len).map D)
  simp only [List.length_map, List.length_range] at hl
  rcases hr with rfl | ⟨b, o, rfl, hb, hel⟩
  · exact ⟨[], ⟨_, _, rfl, .inl rfl⟩, by simp, by simp⟩
  · have each : ∀ i, i < len → ∃ r : Raw5, r.fits ∧ RawAt W b (o + i * 5) r := by
      intro i hi
      obtain ⟨cs, n, pl, hl, hc, ht⟩ := hel i hi
      obtain ⟨xs, k, hk, hxy, _, hxl, hf⟩ := DataW.trod_struct Try.underlying72 ht
      match cs, hl with
      | [v0, v1, v2, v3, v4], _ =>
        have hl5 : xs.length = 5 := hxl
        match xs, hl5 with
        | [y0, y1, y2, y3, y4], _ =>
          have g0 := hf 0 _ rfl
          have g1 := hf 1 _ rfl
          have g2 := hf 2 _ rfl
          have g3 := hf 3 _ rfl
          have g4 := hf 4 _ rfl
          simp [cellsC_int] at g0 g1 g2 g3 g4
          obtain ⟨n0, w0, _, i0⟩ := DataW.trod_int Try.underlying3 g0
          obtain ⟨n1, w1, _, i1⟩ := DataW.trod_int Try.underlying3 g1
          obtain ⟨n2, w2, _, i2⟩ := DataW.trod_int Try.underlying3 g2
          obtain ⟨n3, w3, _, i3⟩ := DataW.trod_int Try.underlying3 g3
          obtain ⟨n4, w4, _, i4⟩ := DataW.trod_int Try.underlying3 g4
          simp at w0 w1 w2 w3 w4
          subst w0; subst w1; subst w2; subst w3; subst w4
          exact ⟨⟨n0, n1, n2, n3, n4⟩, ⟨bounds_i64 i0, bounds_i64 i1, bounds_i64 i2, bounds_i64 i3, bounds_i64 i4⟩, hc 0 (by decide), hc 1 (by decide), hc 2 (by decide), hc 3 (by decide), hc 4 (by decide)⟩
    have hin : Inhabited Raw5 := ⟨⟨0, 0, 0, 0, 0⟩⟩
    obtain ⟨f, hf⟩ := choose_lt each
    refine ⟨(List.range len).map f, ⟨_, cap, by simp, .inr ⟨b, o, rfl, hb, fun i t hi => ?_⟩⟩, fun t ht => ?_, by simp; omega⟩
    · obtain ⟨hlt, rfl⟩ := mapC_get hi
      exact (hf i hlt).2
    · obtain ⟨i, hi, rfl⟩ := List.mem_map.1 ht
      exact (hf i (List.mem_range.1 hi)).1

end Go.Proofs.Ythloffgebebijaa
