/- Open: what a script that came in reads as: steps, with their configurations, and how great they are. -/
import Derived.Test.YthloffgebebijaaGreatRows
import Derived.Test.YthloffgebebijaaGreatPlays
import Derived.ProofKit
import Derived.Deep.Slices
import Derived.Test.YthloffgebebijaaGreatRigK
import Derived.SizedLaws
namespace Go.Proofs.YthloffgebebijaaGreat
open Go.ChangeShapes Go.WideShapes Go.ChangeAt Go.RowKit Go.Deep

theorem cells_oint : Tryz.prog.cellsOf 3 = 1 := by kernel_rfl
theorem cells_ostr : Tryz.prog.cellsOf 9 = 1 := by kernel_rfl
theorem cells_olim : Tryz.prog.cellsOf 52 = 2 := by kernel_rfl
theorem cells_otask : Tryz.prog.cellsOf 55 = 3 := by kernel_rfl
theorem cells_ocfg : Tryz.prog.cellsOf 40 = 6 := by kernel_rfl
theorem cells_oop : Tryz.prog.cellsOf 43 = 11 := by kernel_rfl
theorem cells_olims : Tryz.prog.cellsOf 53 = 1 := by kernel_rfl
theorem cells_otasks : Tryz.prog.cellsOf 38 = 1 := by kernel_rfl

theorem bulk_one {H : Type} (d : DataW H) : 1 ≤ Rows.uptoBulk d := by
  cases d with
  | lit l => cases l <;> simp [Rows.uptoBulk]
  | nil => simp [Rows.uptoBulk]
  | ptr d => simp [Rows.uptoBulk]
  | slice elems spare => simp [Rows.uptoBulk]
  | agg parts => simp [Rows.uptoBulk]
  | iface t d => simp [Rows.uptoBulk]
  | map entries => simp [Rows.uptoBulk]
  | held h => simp [Rows.uptoBulk]
theorem bulk_mem {H : Type} {d : DataW H} {l : List (DataW H)} (h : d ∈ l) : Rows.uptoBulk d ≤ Rows.uptoBulkAll l := by
  induction l with
  | nil => cases h
  | cons x r ih =>
    simp only [Rows.uptoBulkAll]
    cases List.mem_cons.1 h with
    | inl e => subst e; omega
    | inr e => have := ih e; omega
theorem bulk_len {H : Type} (l : List (DataW H)) : l.length ≤ Rows.uptoBulkAll l := by
  induction l with
  | nil => simp [Rows.uptoBulkAll]
  | cons x r ih => have := bulk_one x; simp only [Rows.uptoBulkAll, List.length_cons]; omega

theorem addr_plain2 {b o : Nat} (i : Nat) : (⟨b, o, none⟩ : Addr).add i = ⟨b, o + i, none⟩ := by
  by_cases h : i = 0
  · subst h; rfl
  · simp [Addr.add, h]

/-- A slice that is read: its elements one by one, each no greater than the whole. -/
theorem slice_rows {H : Type} {enc : TypeId × Value → H} {W : World} {held : Bool} {fuel : Nat} {v : Value} {x : DataW H × List MemPlace} {t e : TypeId} {size : Nat} (ht : Tryz.prog.underlying t = some (.slice e)) (hs : Tryz.prog.cellsOf e = size) (hpos : 0 < size)
    (h : DataW.trod enc Tryz.prog W 0 (fun _ => true) held fuel t [v] = some x) :
    ∃ ao len cap, v = .slice ao len cap ∧ len ≤ Rows.uptoBulk x.1 ∧ (len = 0 ∨ ∃ b o, ao = some ⟨b, o, none⟩ ∧ b < W.heap.size ∧ ∀ i, i < len → ∃ (cs : List Value) (n : Nat) (y : DataW H × List MemPlace), cs.length = size ∧ (∀ j, j < size → W.cell? ⟨b, o + i * size + j, none⟩ = cs[j]?) ∧ DataW.trod enc Tryz.prog W 0 (fun _ => true) held n e cs = some y ∧ Rows.uptoBulk y.1 ≤ Rows.uptoBulk x.1) := by
  rcases open_slice ht h with ⟨hcs, _⟩ | ⟨a, len, cap, m, n, D, Pl, hcs, _, hl, _, hm, hx, hel⟩
  · simp at hcs
    subst hcs
    exact ⟨none, 0, 0, rfl, Nat.zero_le _, .inl rfl⟩
  · simp at hcs hm
    subst hcs
    subst hm
    rw [hs] at hel
    have hb : Rows.uptoBulkAll ((List.range len).map D) + 1 ≤ Rows.uptoBulk x.1 := by rw [hx]; simp only [Rows.uptoBulk]; omega
    have hlen := bulk_len ((List.range len).map D)
    simp only [List.length_map, List.length_range] at hlen
    refine ⟨some a, len, m, rfl, by omega, ?_⟩
    by_cases h0 : len = 0
    · exact .inl h0
    right
    obtain ⟨b, o, spot⟩ := a
    have hsp : spot = none := by
      obtain ⟨cs', c1, _⟩ := hel 0 (by omega)
      obtain ⟨_, hl', hc'⟩ := World.cells?_some c1
      have := hc' 0 (by omega)
      obtain ⟨u, hu⟩ : ∃ u, cs'[0]? = some u := ⟨cs'[0], List.getElem?_eq_getElem (by omega)⟩
      rw [hu] at this
      simpa [Addr.add] using World.cell?_spot this
    subst hsp
    refine ⟨b, o, rfl, ?_, fun i hi => ?_⟩
    · obtain ⟨cs', c1, _⟩ := hel 0 (by omega)
      obtain ⟨_, hl', hc'⟩ := World.cells?_some c1
      have := hc' 0 (by omega)
      obtain ⟨u, hu⟩ : ∃ u, cs'[0]? = some u := ⟨cs'[0], List.getElem?_eq_getElem (by omega)⟩
      rw [hu, addr_plain2, addr_plain2] at this
      exact block_lt_of_cell this
    · obtain ⟨cs', c1, c2⟩ := hel i (by omega)
      obtain ⟨_, hl', hc'⟩ := World.cells?_some c1
      refine ⟨cs', n, _, hl', fun j hj => ?_, c2, ?_⟩
      · have := hc' j (by omega)
        rw [addr_plain2, addr_plain2] at this
        exact this
      · have : D i ∈ (List.range len).map D := List.mem_map.2 ⟨i, List.mem_range.2 hi, rfl⟩
        have := bulk_mem this
        simp only
        omega

set_option maxRecDepth 100000 in
theorem lims_open {H : Type} {enc : TypeId × Value → H} {W : World} {held : Bool} {fuel : Nat} {v : Value} {x : DataW H × List MemPlace} (h : DataW.trod enc Tryz.prog W 0 (fun _ => true) held fuel 53 [v] = some x) :
    ∃ ls : List (Int × Int), Lims W W.heap.size v ls ∧ ls.length ≤ Rows.uptoBulk x.1 := by
  obtain ⟨ao, len, cap, rfl, hlen, hr⟩ := slice_rows Tryz.underlying53 cells_olim (by decide) h
  rcases hr with rfl | ⟨b, o, rfl, hb, hel⟩
  · exact ⟨[], ⟨_, _, rfl, .inl rfl⟩, by simp⟩
  · have each : ∀ i, i < len → ∃ l : Int × Int, LimAt W b (o + i * 2) l := by
      intro i hi
      obtain ⟨cs, n, y, hl, hc, ht, _⟩ := hel i hi
      obtain ⟨xs, k, hk, hxy, _, hxl, hf⟩ := DataW.trod_struct Tryz.underlying52 ht
      match cs, hl with
      | [v0, v1], _ =>
        have hl2 : xs.length = 2 := hxl
        match xs, hl2 with
        | [y0, y1], _ =>
          have g0 := hf 0 _ rfl
          have g1 := hf 1 _ rfl
          simp [cells_oint] at g0 g1
          obtain ⟨n0, w0, _, _⟩ := DataW.trod_int Tryz.underlying3 g0
          obtain ⟨n1, w1, _, _⟩ := DataW.trod_int Tryz.underlying3 g1
          simp at w0 w1
          subst w0; subst w1
          exact ⟨(n0, n1), hc 0 (by decide), hc 1 (by decide)⟩
    have hin : Inhabited (Int × Int) := ⟨(0, 0)⟩
    obtain ⟨f, hf⟩ := choose_lt each
    refine ⟨(List.range len).map f, ⟨_, cap, by simp, .inr ⟨b, o, rfl, hb, fun i l hi => ?_⟩⟩, by simpa using hlen⟩
    have hlt := lt_of_get hi
    simp at hlt
    have hr : f i = l := by simpa [hlt] using hi
    rw [← hr]
    exact hf i hlt

set_option maxRecDepth 100000 in
theorem tasks_open {H : Type} {enc : TypeId × Value → H} {W : World} {held : Bool} {fuel : Nat} {v : Value} {x : DataW H × List MemPlace} (h : DataW.trod enc Tryz.prog W 0 (fun _ => true) held fuel 38 [v] = some x) :
    ∃ ts : List Tk, Tasks W W.heap.size v ts ∧ ts.length ≤ Rows.uptoBulk x.1 ∧ ∀ t ∈ ts, t.lims.length ≤ Rows.uptoBulk x.1 := by
  obtain ⟨ao, len, cap, rfl, hlen, hr⟩ := slice_rows Tryz.underlying38 cells_otask (by decide) h
  rcases hr with rfl | ⟨b, o, rfl, hb, hel⟩
  · exact ⟨[], ⟨_, _, rfl, .inl rfl⟩, by simp, by simp⟩
  · have each : ∀ i, i < len → ∃ t : Tk, TaskAt W W.heap.size b (o + i * 3) t ∧ t.lims.length ≤ Rows.uptoBulk x.1 := by
      intro i hi
      obtain ⟨cs, n, y, hl, hc, ht, hbk⟩ := hel i hi
      obtain ⟨xs, k, hk, hxy, _, hxl, hf⟩ := DataW.trod_struct Tryz.underlying55 ht
      match cs, hl with
      | [v0, v1, v2], _ =>
        have hl2 : xs.length = 3 := hxl
        match xs, hl2 with
        | [y0, y1, y2], _ =>
          have g0 := hf 0 _ rfl
          have g1 := hf 1 _ rfl
          have g2 := hf 2 _ rfl
          simp [cells_oint, cells_olims] at g0 g1 g2
          obtain ⟨n0, w0, _, _⟩ := DataW.trod_int Tryz.underlying3 g0
          obtain ⟨n1, w1, _, _⟩ := DataW.trod_int Tryz.underlying3 g1
          obtain ⟨ls, hls, hll⟩ := lims_open g2
          simp at w0 w1
          subst w0; subst w1
          refine ⟨⟨n0, n1, ls⟩, ⟨hc 0 (by decide), hc 1 (by decide), _, hc 2 (by decide), hls⟩, ?_⟩
          have : y2.1 ∈ [y0, y1, y2].map (·.1) := by simp
          have h1 := bulk_mem this
          rw [hxy] at hbk
          simp only [Rows.uptoBulk] at hbk
          simp only
          omega
    have hin : Inhabited Tk := ⟨⟨0, 0, []⟩⟩
    obtain ⟨f, hf⟩ := choose_lt each
    refine ⟨(List.range len).map f, ⟨_, cap, by simp, .inr ⟨b, o, rfl, hb, fun i l hi => ?_⟩⟩, by simpa using hlen, fun t ht => ?_⟩
    · have hlt := lt_of_get hi
      simp at hlt
      have hr : f i = l := by simpa [hlt] using hi
      rw [← hr]
      exact (hf i hlt).1
    · obtain ⟨i, hi, rfl⟩ := List.mem_map.1 ht
      exact (hf i (List.mem_range.1 hi)).2

set_option maxRecDepth 100000 in
theorem script_open {H : Type} {enc : TypeId × Value → H} {W : World} {held : Bool} {fuel : Nat} {v : Value} {x : DataW H × List MemPlace} (h : DataW.trod enc Tryz.prog W 0 (fun _ => true) held fuel 22 [v] = some x) (hx : Rows.uptoBulk x.1 ≤ 1048576) :
    ∃ os : List Stp, Script W W.heap.size v os ∧ os.length ≤ 1048576 ∧ ∀ o ∈ os, StpOk o := by
  obtain ⟨ao, len, cap, rfl, hlen, hr⟩ := slice_rows Tryz.underlying22 cells_oop (by decide) h
  rcases hr with rfl | ⟨b, o, rfl, hb, hel⟩
  · exact ⟨[], ⟨_, _, rfl, .inl rfl⟩, by simp, by simp⟩
  · have each : ∀ i, i < len → ∃ s : Stp, OpAt W W.heap.size b (o + i * 11) s ∧ StpOk s := by
      intro i hi
      obtain ⟨cs, n, y, hl, hc, ht, hbk⟩ := hel i hi
      obtain ⟨xs, k, hk, hxy, _, hxl, hf⟩ := DataW.trod_struct Tryz.underlying43 ht
      match cs, hl with
      | [v0, v1, v2, v3, v4, v5, v6, v7, v8, v9, v10], _ =>
        have hl2 : xs.length = 6 := hxl
        match xs, hl2 with
        | [y0, y1, y2, y3, y4, y5], _ =>
          have g0 := hf 0 _ rfl
          have g1 := hf 1 _ rfl
          have g2 := hf 2 _ rfl
          have g3 := hf 3 _ rfl
          have g4 := hf 4 _ rfl
          have g5 := hf 5 _ rfl
          simp [cells_oint, cells_ostr, cells_ocfg] at g0 g1 g2 g3 g4 g5
          obtain ⟨n0, w0, _, _⟩ := DataW.trod_int Tryz.underlying3 g0
          obtain ⟨n1, w1, _, _⟩ := DataW.trod_int Tryz.underlying3 g1
          obtain ⟨n2, w2, _, _⟩ := DataW.trod_int Tryz.underlying3 g2
          obtain ⟨n3, w3, _, _⟩ := DataW.trod_int Tryz.underlying3 g3
          obtain ⟨st, w4, hst, _⟩ := DataW.trod_string Tryz.underlying9 g4
          obtain ⟨zs, k2, hk2, hzy, _, hzl, hf2⟩ := DataW.trod_struct Tryz.underlying40 g5
          have hz6 : zs.length = 6 := hzl
          match zs, hz6 with
          | [z0, z1, z2, z3, z4, z5], _ =>
            have e0 := hf2 0 _ rfl
            have e1 := hf2 1 _ rfl
            have e2 := hf2 2 _ rfl
            have e3 := hf2 3 _ rfl
            have e4 := hf2 4 _ rfl
            have e5 := hf2 5 _ rfl
            simp [cells_oint, cells_otasks] at e0 e1 e2 e3 e4 e5
            obtain ⟨m0, u0, _, _⟩ := DataW.trod_int Tryz.underlying3 e0
            obtain ⟨m1, u1, _, _⟩ := DataW.trod_int Tryz.underlying3 e1
            obtain ⟨m2, u2, _, _⟩ := DataW.trod_int Tryz.underlying3 e2
            obtain ⟨m3, u3, _, _⟩ := DataW.trod_int Tryz.underlying3 e3
            obtain ⟨m4, u4, _, _⟩ := DataW.trod_int Tryz.underlying3 e4
            obtain ⟨ts, hts, htl, htl2⟩ := tasks_open e5
            simp at w0 w1 w2 w3 w4 u0 u1 u2 u3 u4
            subst w0; subst w1; subst w2; subst w3; subst w4; subst u0; subst u1; subst u2; subst u3; subst u4
            have b4 : y4.1 ∈ [y0, y1, y2, y3, y4, y5].map (·.1) := by simp
            have b5 : y5.1 ∈ [y0, y1, y2, y3, y4, y5].map (·.1) := by simp
            have c5 : z5.1 ∈ [z0, z1, z2, z3, z4, z5].map (·.1) := by simp
            have h4 := bulk_mem b4
            have h5 := bulk_mem b5
            have h6 := bulk_mem c5
            rw [hxy] at hbk
            simp only [Rows.uptoBulk] at hbk
            have i4 : Rows.uptoBulk y4.1 = st.data.toList.length + 1 := by rw [hst]; simp only [Rows.uptoBulk]
            have i5 : Rows.uptoBulk y5.1 = Rows.uptoBulkAll ([z0, z1, z2, z3, z4, z5].map (·.1)) + 1 := by rw [hzy]; simp only [Rows.uptoBulk]
            have es : st.data.toList.length = st.size := by rw [Array.length_toList]; rfl
            have hb5 : Rows.uptoBulk z5.1 ≤ 1048576 := by omega
            refine ⟨⟨n0, n1, n2, n3, st, ⟨m0, m1, m2, m3, m4, ts⟩⟩, ⟨hc 0 (by decide), hc 1 (by decide), hc 2 (by decide), hc 3 (by decide), hc 4 (by decide), hc 5 (by decide), hc 6 (by decide), hc 7 (by decide), hc 8 (by decide), hc 9 (by decide), _, hc 10 (by decide), hts⟩, ?_, ?_, ?_⟩
            · simp only; omega
            · simp only; omega
            · intro t ht
              have := htl2 t ht
              omega
    have hin : Inhabited Stp := ⟨⟨0, 0, 0, 0, ⟨#[]⟩, ⟨0, 0, 0, 0, 0, []⟩⟩⟩
    obtain ⟨f, hf⟩ := choose_lt each
    refine ⟨(List.range len).map f, ⟨_, cap, by simp, .inr ⟨b, o, rfl, hb, fun i l hi => ?_⟩⟩, by simp; omega, fun t ht => ?_⟩
    · have hlt := lt_of_get hi
      simp at hlt
      have hr : f i = l := by simpa [hlt] using hi
      rw [← hr]
      exact (hf i hlt).1
    · obtain ⟨i, hi, rfl⟩ := List.mem_map.1 ht
      exact (hf i (List.mem_range.1 hi)).2

end Go.Proofs.YthloffgebebijaaGreat

/- OpenG: a script as the statement's data reads, and how great its parts are, where no bound on the whole is given. -/
namespace Go.Proofs.YthloffgebebijaaGreat
open Go.ChangeShapes Go.WideShapes Go.ChangeAt Go.RowKit Go.Deep

theorem bytes_glim : Tryz.prog.bytesOf 52 = 16 := by kernel_rfl
theorem bytes_gtask : Tryz.prog.bytesOf 55 = 40 := by kernel_rfl
theorem bytes_gop : Tryz.prog.bytesOf 43 = 112 := by kernel_rfl
theorem weights_all {H : Type} {P : Program} {e : TypeId} {d : DataW H} {n : Nat} : ∀ {l : List (DataW H)}, d ∈ l → n ∈ d.weights P e → n ∈ DataW.weightsAll P e l
  | [], h, _ => by simp at h
  | x :: l, h, hn => by
    rw [DataW.weightsAll]
    rcases List.mem_cons.1 h with rfl | h
    · exact List.mem_append_left _ hn
    · exact List.mem_append_right _ (weights_all h hn)
theorem part_weights {H : Type} {P : Program} {t t' : TypeId} {fs : Array Field} {parts : List (DataW H)} {R j : Nat} {d : DataW H} (hu : P.underlying t = some (.struct fs)) (hw : ∀ n ∈ DataW.weights P t (.agg parts), n ≤ R) (ht : (fs.toList.map (·.type))[j]? = some t') (hd : parts[j]? = some d) : ∀ n ∈ DataW.weights P t' d, n ≤ R :=
  fun n hn => hw n (by rw [DataW.weights, hu]; exact DataW.weights_mem_each ht hd n hn)

/-- A slice that is read: its elements one by one, each with weights of the whole. -/
theorem slice_rowsW {H : Type} {enc : TypeId × Value → H} {W : World} {held : Bool} {fuel : Nat} {v : Value} {x : DataW H × List MemPlace} {t e : TypeId} {size : Nat} (ht : Tryz.prog.underlying t = some (.slice e)) (hs : Tryz.prog.cellsOf e = size) (hpos : 0 < size)
    (h : DataW.trod enc Tryz.prog W 0 (fun _ => true) held fuel t [v] = some x) (hw : ∀ n ∈ DataW.weights Tryz.prog t x.1, n ≤ 140737488351232) :
    ∃ ao len cap, v = .slice ao len cap ∧ len * Tryz.prog.bytesOf e ≤ 140737488351232 ∧ (len = 0 ∨ ∃ b o, ao = some ⟨b, o, none⟩ ∧ b < W.heap.size ∧ ∀ i, i < len → ∃ (cs : List Value) (n : Nat) (y : DataW H × List MemPlace), cs.length = size ∧ (∀ j, j < size → W.cell? ⟨b, o + i * size + j, none⟩ = cs[j]?) ∧ DataW.trod enc Tryz.prog W 0 (fun _ => true) held n e cs = some y ∧ ∀ n ∈ DataW.weights Tryz.prog e y.1, n ≤ 140737488351232) := by
  rcases open_slice ht h with ⟨hcs, _⟩ | ⟨a, len, cap, m, n, D, Pl, hcs, _, hl, _, hm, hx, hel⟩
  · simp at hcs
    subst hcs
    exact ⟨none, 0, 0, rfl, by simp, .inl rfl⟩
  · simp at hcs hm
    subst hcs
    subst hm
    rw [hs] at hel
    obtain ⟨sp, hxe⟩ : ∃ sp, x.1 = .slice ((List.range len).map D) sp := ⟨_, by rw [hx]⟩
    rw [hxe, DataW.weights, ht] at hw
    have hb : len * Tryz.prog.bytesOf e ≤ 140737488351232 := by
      have h1 := hw _ List.mem_cons_self
      rw [List.length_map, List.length_range] at h1
      exact Nat.le_trans (Nat.mul_le_mul_right _ (Nat.le_add_right _ _)) h1
    refine ⟨some a, len, m, rfl, hb, ?_⟩
    clear hb
    by_cases h0 : len = 0
    · exact .inl h0
    right
    obtain ⟨b, o, spot⟩ := a
    have hsp : spot = none := by
      obtain ⟨cs', c1, _⟩ := hel 0 (by omega)
      obtain ⟨_, hl', hc'⟩ := World.cells?_some c1
      have := hc' 0 (by omega)
      obtain ⟨u, hu⟩ : ∃ u, cs'[0]? = some u := ⟨cs'[0], List.getElem?_eq_getElem (by omega)⟩
      rw [hu] at this
      simpa [Addr.add] using World.cell?_spot this
    subst hsp
    refine ⟨b, o, rfl, ?_, fun i hi => ?_⟩
    · obtain ⟨cs', c1, _⟩ := hel 0 (by omega)
      obtain ⟨_, hl', hc'⟩ := World.cells?_some c1
      have := hc' 0 (by omega)
      obtain ⟨u, hu⟩ : ∃ u, cs'[0]? = some u := ⟨cs'[0], List.getElem?_eq_getElem (by omega)⟩
      rw [hu, addr_plain2, addr_plain2] at this
      exact block_lt_of_cell this
    · obtain ⟨cs', c1, c2⟩ := hel i (by omega)
      obtain ⟨_, hl', hc'⟩ := World.cells?_some c1
      refine ⟨cs', n, _, hl', fun j hj => ?_, c2, ?_⟩
      · have := hc' j (by omega)
        rw [addr_plain2, addr_plain2] at this
        exact this
      · intro n hn
        exact hw n (List.mem_cons_of_mem _ (List.mem_append_left _ (weights_all (d := D i) (List.mem_map_of_mem (List.mem_range.2 hi)) hn)))

set_option maxRecDepth 100000 in
theorem lims_openW {H : Type} {enc : TypeId × Value → H} {W : World} {held : Bool} {fuel : Nat} {v : Value} {x : DataW H × List MemPlace} (h : DataW.trod enc Tryz.prog W 0 (fun _ => true) held fuel 53 [v] = some x) (hw : ∀ n ∈ DataW.weights Tryz.prog 53 x.1, n ≤ 140737488351232) :
    ∃ ls : List (Int × Int), Lims W W.heap.size v ls ∧ ls.length ≤ 8796093021952 := by
  obtain ⟨ao, len, cap, rfl, hlen, hr⟩ := slice_rowsW Tryz.underlying53 cells_olim (by decide) h hw
  rw [bytes_glim] at hlen
  rcases hr with rfl | ⟨b, o, rfl, hb, hel⟩
  · exact ⟨[], ⟨_, _, rfl, .inl rfl⟩, by simp⟩
  · have each : ∀ i, i < len → ∃ l : Int × Int, LimAt W b (o + i * 2) l := by
      intro i hi
      obtain ⟨cs, n, y, hl, hc, ht, _⟩ := hel i hi
      obtain ⟨xs, k, hk, hxy, _, hxl, hf⟩ := DataW.trod_struct Tryz.underlying52 ht
      match cs, hl with
      | [v0, v1], _ =>
        have hl2 : xs.length = 2 := hxl
        match xs, hl2 with
        | [y0, y1], _ =>
          have g0 := hf 0 _ rfl
          have g1 := hf 1 _ rfl
          simp [cells_oint] at g0 g1
          obtain ⟨n0, w0, _, _⟩ := DataW.trod_int Tryz.underlying3 g0
          obtain ⟨n1, w1, _, _⟩ := DataW.trod_int Tryz.underlying3 g1
          simp at w0 w1
          subst w0; subst w1
          exact ⟨(n0, n1), hc 0 (by decide), hc 1 (by decide)⟩
    have hin : Inhabited (Int × Int) := ⟨(0, 0)⟩
    obtain ⟨f, hf⟩ := choose_lt each
    refine ⟨(List.range len).map f, ⟨_, cap, by simp, .inr ⟨b, o, rfl, hb, fun i l hi => ?_⟩⟩, by simp; omega⟩
    have hlt := lt_of_get hi
    simp at hlt
    have hr : f i = l := by simpa [hlt] using hi
    rw [← hr]
    exact hf i hlt

set_option maxRecDepth 100000 in
theorem tasks_openW {H : Type} {enc : TypeId × Value → H} {W : World} {held : Bool} {fuel : Nat} {v : Value} {x : DataW H × List MemPlace} (h : DataW.trod enc Tryz.prog W 0 (fun _ => true) held fuel 38 [v] = some x) (hw : ∀ n ∈ DataW.weights Tryz.prog 38 x.1, n ≤ 140737488351232) :
    ∃ ts : List Tk, Tasks W W.heap.size v ts ∧ ts.length ≤ 3518437208780 ∧ ∀ t ∈ ts, t.lims.length ≤ 8796093021952 := by
  obtain ⟨ao, len, cap, rfl, hlen, hr⟩ := slice_rowsW Tryz.underlying38 cells_otask (by decide) h hw
  rw [bytes_gtask] at hlen
  rcases hr with rfl | ⟨b, o, rfl, hb, hel⟩
  · exact ⟨[], ⟨_, _, rfl, .inl rfl⟩, by simp, by simp⟩
  · have each : ∀ i, i < len → ∃ t : Tk, TaskAt W W.heap.size b (o + i * 3) t ∧ t.lims.length ≤ 8796093021952 := by
      intro i hi
      obtain ⟨cs, n, y, hl, hc, ht, hbk⟩ := hel i hi
      obtain ⟨xs, k, hk, hxy, _, hxl, hf⟩ := DataW.trod_struct Tryz.underlying55 ht
      match cs, hl with
      | [v0, v1, v2], _ =>
        have hl2 : xs.length = 3 := hxl
        match xs, hl2 with
        | [y0, y1, y2], _ =>
          have g0 := hf 0 _ rfl
          have g1 := hf 1 _ rfl
          have g2 := hf 2 _ rfl
          simp [cells_oint, cells_olims] at g0 g1 g2
          obtain ⟨n0, w0, _, _⟩ := DataW.trod_int Tryz.underlying3 g0
          obtain ⟨n1, w1, _, _⟩ := DataW.trod_int Tryz.underlying3 g1
          rw [hxy] at hbk
          have hb2 := part_weights (j := 2) (t' := 53) (d := y2.1) Tryz.underlying55 hbk rfl rfl
          obtain ⟨ls, hls, hll⟩ := lims_openW g2 hb2
          simp at w0 w1
          subst w0; subst w1
          exact ⟨⟨n0, n1, ls⟩, ⟨hc 0 (by decide), hc 1 (by decide), _, hc 2 (by decide), hls⟩, hll⟩
    have hin : Inhabited Tk := ⟨⟨0, 0, []⟩⟩
    obtain ⟨f, hf⟩ := choose_lt each
    refine ⟨(List.range len).map f, ⟨_, cap, by simp, .inr ⟨b, o, rfl, hb, fun i l hi => ?_⟩⟩, by simp; omega, fun t ht => ?_⟩
    · have hlt := lt_of_get hi
      simp at hlt
      have hr : f i = l := by simpa [hlt] using hi
      rw [← hr]
      exact (hf i hlt).1
    · obtain ⟨i, hi, rfl⟩ := List.mem_map.1 ht
      exact (hf i (List.mem_range.1 hi)).2

set_option maxRecDepth 100000 in
theorem script_inW {H : Type} {enc : TypeId × Value → H} {W : World} {held : Bool} {fuel : Nat} {v : Value} {x : DataW H × List MemPlace} (h : DataW.trod enc Tryz.prog W 0 (fun _ => true) held fuel 22 [v] = some x) (hw : ∀ n ∈ DataW.weights Tryz.prog 22 x.1, n ≤ 140737488351232) :
    ∃ os : List Stp, Script W W.heap.size v os ∧ os.length ≤ 1256584717421 ∧ ∀ o ∈ os, StpIn o := by
  obtain ⟨ao, len, cap, rfl, hlen, hr⟩ := slice_rowsW Tryz.underlying22 cells_oop (by decide) h hw
  rw [bytes_gop] at hlen
  rcases hr with rfl | ⟨b, o, rfl, hb, hel⟩
  · exact ⟨[], ⟨_, _, rfl, .inl rfl⟩, by simp, by simp⟩
  · have each : ∀ i, i < len → ∃ s : Stp, OpAt W W.heap.size b (o + i * 11) s ∧ StpIn s := by
      intro i hi
      obtain ⟨cs, n, y, hl, hc, ht, hbk⟩ := hel i hi
      obtain ⟨xs, k, hk, hxy, _, hxl, hf⟩ := DataW.trod_struct Tryz.underlying43 ht
      match cs, hl with
      | [v0, v1, v2, v3, v4, v5, v6, v7, v8, v9, v10], _ =>
        have hl2 : xs.length = 6 := hxl
        match xs, hl2 with
        | [y0, y1, y2, y3, y4, y5], _ =>
          have g0 := hf 0 _ rfl
          have g1 := hf 1 _ rfl
          have g2 := hf 2 _ rfl
          have g3 := hf 3 _ rfl
          have g4 := hf 4 _ rfl
          have g5 := hf 5 _ rfl
          simp [cells_oint, cells_ostr, cells_ocfg] at g0 g1 g2 g3 g4 g5
          obtain ⟨n0, w0, _, _⟩ := DataW.trod_int Tryz.underlying3 g0
          obtain ⟨n1, w1, _, j1⟩ := DataW.trod_int Tryz.underlying3 g1
          obtain ⟨n2, w2, _, j2⟩ := DataW.trod_int Tryz.underlying3 g2
          obtain ⟨n3, w3, _, j3⟩ := DataW.trod_int Tryz.underlying3 g3
          obtain ⟨st, w4, hst, _⟩ := DataW.trod_string Tryz.underlying9 g4
          obtain ⟨zs, k2, hk2, hzy, _, hzl, hf2⟩ := DataW.trod_struct Tryz.underlying40 g5
          have hz6 : zs.length = 6 := hzl
          match zs, hz6 with
          | [z0, z1, z2, z3, z4, z5], _ =>
            have e0 := hf2 0 _ rfl
            have e1 := hf2 1 _ rfl
            have e2 := hf2 2 _ rfl
            have e3 := hf2 3 _ rfl
            have e4 := hf2 4 _ rfl
            have e5 := hf2 5 _ rfl
            simp [cells_oint, cells_otasks] at e0 e1 e2 e3 e4 e5
            obtain ⟨m0, u0, _, _⟩ := DataW.trod_int Tryz.underlying3 e0
            obtain ⟨m1, u1, _, _⟩ := DataW.trod_int Tryz.underlying3 e1
            obtain ⟨m2, u2, _, _⟩ := DataW.trod_int Tryz.underlying3 e2
            obtain ⟨m3, u3, _, _⟩ := DataW.trod_int Tryz.underlying3 e3
            obtain ⟨m4, u4, _, _⟩ := DataW.trod_int Tryz.underlying3 e4
            rw [hxy] at hbk
            have hb4 := part_weights (j := 4) (t' := 9) (d := y4.1) Tryz.underlying43 hbk rfl rfl
            have hb5 := part_weights (j := 5) (t' := 40) (d := y5.1) Tryz.underlying43 hbk rfl rfl
            rw [hzy] at hb5
            have hb6 := part_weights (j := 5) (t' := 38) (d := z5.1) Tryz.underlying40 hb5 rfl rfl
            obtain ⟨ts, hts, htl, htl2⟩ := tasks_openW e5 hb6
            simp at w0 w1 w2 w3 w4 u0 u1 u2 u3 u4
            subst w0; subst w1; subst w2; subst w3; subst w4; subst u0; subst u1; subst u2; subst u3; subst u4
            have es : st.data.toList.length = st.size := by rw [Array.length_toList]; rfl
            have i4 : st.size ≤ 140737488351232 := by
              have h1 := hb4 st.data.toList.length (by rw [hst, DataW.weights]; exact List.mem_singleton.2 rfl)
              omega
            exact ⟨⟨n0, n1, n2, n3, st, ⟨m0, m1, m2, m3, m4, ts⟩⟩, ⟨hc 0 (by decide), hc 1 (by decide), hc 2 (by decide), hc 3 (by decide), hc 4 (by decide), hc 5 (by decide), hc 6 (by decide), hc 7 (by decide), hc 8 (by decide), hc 9 (by decide), _, hc 10 (by decide), hts⟩, ⟨i4, htl, htl2⟩, bounds_i64 j1, bounds_i64 j2, bounds_i64 j3⟩
    have hin : Inhabited Stp := ⟨⟨0, 0, 0, 0, ⟨#[]⟩, ⟨0, 0, 0, 0, 0, []⟩⟩⟩
    obtain ⟨f, hf⟩ := choose_lt each
    refine ⟨(List.range len).map f, ⟨_, cap, by simp, .inr ⟨b, o, rfl, hb, fun i l hi => ?_⟩⟩, by simp; omega, fun t ht => ?_⟩
    · have hlt := lt_of_get hi
      simp at hlt
      have hr : f i = l := by simpa [hlt] using hi
      rw [← hr]
      exact (hf i hlt).1
    · obtain ⟨i, hi, rfl⟩ := List.mem_map.1 ht
      exact (hf i (List.mem_range.1 hi)).2

end Go.Proofs.YthloffgebebijaaGreat
