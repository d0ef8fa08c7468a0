/- PieC: two houses side by side, as one thing: what a call of either leaves of both; the walk's plain facts. -/
import Derived.Test.YthloffgebebijaaPieB
import Derived.Test.YthloffgebebijaaCntB
namespace Go.Proofs.Ythloffgebebijaa
open Go.RowKit Go.MuLone

/-- Two houses in memory that share no block, all of them from b on. -/
structure Pair (b : Nat) (w : World) (bH bG H X G Y : Nat) (x y : Exs) (c : Cfg) (tv : Value) (d e : List Ev) : Prop where
  ex : ∃ O Q, Hou1 w O bH H X x c tv d ∧ Hou1 w Q bG G Y y c tv e ∧ (∀ k, O k → b ≤ k ∧ ¬ Q k) ∧ (∀ k, Q k → b ≤ k)
  hH : bH ≤ w.heap.size
  hG : bG ≤ w.heap.size
  hb : b ≤ w.heap.size

theorem Pair.swap {b : Nat} {w : World} {bH bG H X G Y : Nat} {x y : Exs} {c : Cfg} {tv : Value} {d e : List Ev} (h : Pair b w bH bG H X G Y x y c tv d e) : Pair b w bG bH G Y H X y x c tv e d := by
  obtain ⟨⟨O, Q, h1, h2, h3, h4⟩, h5, h6, h7⟩ := h
  exact ⟨⟨Q, O, h2, h1, fun k hk => ⟨h4 k hk, fun ho => (h3 k ho).2 hk⟩, fun k hk => (h3 k hk).1⟩, h6, h5, h7⟩
theorem Pair.later {b : Nat} {w w' : World} {bH bG H X G Y : Nat} {x y : Exs} {c : Cfg} {tv : Value} {d e : List Ev} (h : Pair b w bH bG H X G Y x y c tv d e) (hb : Below w.heap.size w w') : Pair b w' bH bG H X G Y x y c tv d e := by
  obtain ⟨⟨O, Q, h1, h2, h3, h4⟩, h5, h6, h7⟩ := h
  have := hb.size
  exact ⟨⟨O, Q, h1.later hb, h2.later hb, h3, h4⟩, by omega, by omega, by omega⟩
theorem Pair.six {b : Nat} {w : World} {bH bG H X G Y : Nat} {x y : Exs} {c : Cfg} {tv : Value} {d e : List Ev} (h : Pair b w bH bG H X G Y x y c tv d e) : H < w.heap.size ∧ w.cell? ⟨H, 6, none⟩ = some (.pointer (some ⟨X, 0, none⟩)) := by
  obtain ⟨⟨O, Q, h1, h2, h3, h4⟩, h5, h6, h7⟩ := h
  exact h1.lt
/-- One of them turns. -/
theorem Pair.turn {b : Nat} {w w' : World} {bH bG H X G Y : Nat} {x' y : Exs} {c : Cfg} {tv : Value} {d' e : List Ev} {O Q O' : Nat → Prop} (h2 : Hou1 w Q bG G Y y c tv e) (h3 : ∀ k, O k → b ≤ k ∧ ¬ Q k) (h4 : ∀ k, Q k → b ≤ k) (h5 : bH ≤ w.heap.size) (h6 : bG ≤ w.heap.size) (h7 : b ≤ w.heap.size) (hp : Hou1 w' O' bH H X x' c tv d') (hf : Fr O w w') (ho : ∀ k, O' k → O k ∨ w.heap.size ≤ k) : Pair b w' bH bG H X G Y x' y c tv d' e ∧ Below b w w' := by
  have hz := hf.size
  have h2' : Hou1 w (fun k => Q k ∧ k < w.heap.size) bG G Y y c tv e := h2.mono fun k hk e => ⟨e, hk⟩
  refine ⟨⟨⟨O', fun k => Q k ∧ k < w.heap.size, hp, h2'.beside hf fun k hk ho => (h3 k ho).2 hk.1, fun k hk => ?_, fun k hk => h4 k hk.1⟩, by omega, by omega, by omega⟩, hf.below h7 fun k hk => (h3 k hk).1⟩
  rcases ho k hk with hk | hk
  · exact ⟨(h3 k hk).1, fun e => (h3 k hk).2 e.1⟩
  · exact ⟨by omega, fun e => by omega⟩

theorem pair_clock {b : Nat} {w : World} {bH bG H X G Y : Nat} {x y : Exs} {c : Cfg} {tv : Value} {d e : List Ev} {N : Int} (h : Pair b w bH bG H X G Y x y c tv d e) (hi : ExIn x N) :
    Calls Try.prog 14 #[.pointer (some ⟨H, 0, none⟩)] w fun r w' => r = .returned (.int .i64 x.clock) ∧ Pair b w' bH bG H X G Y x y c tv d e ∧ Below b w w' := by
  obtain ⟨⟨O, Q, h1, h2, h3, h4⟩, h5, h6, h7⟩ := h
  refine (clock1_any O bH H X N x c tv d w h1 hi).mono ?_
  rintro r w' ⟨rfl, p, f⟩
  exact ⟨rfl, Pair.turn h2 h3 h4 h5 h6 h7 p f fun k hk => .inl hk⟩
theorem pair_counts {b : Nat} {w : World} {bH bG H X G Y : Nat} {x y : Exs} {c : Cfg} {tv : Value} {d e : List Ev} {N : Int} (h : Pair b w bH bG H X G Y x y c tv d e) (hi : ExIn x N) :
    Calls Try.prog 17 #[.pointer (some ⟨X, 0, none⟩)] w fun r w' => r = .returned (countsV x) ∧ Pair b w' bH bG H X G Y x y c tv d e ∧ Below b w w' := by
  obtain ⟨⟨O, Q, h1, h2, h3, h4⟩, h5, h6, h7⟩ := h
  refine (counts1_any O bH H X N x c tv d w h1 hi).mono ?_
  rintro r w' ⟨rfl, p, f⟩
  exact ⟨rfl, Pair.turn h2 h3 h4 h5 h6 h7 p f fun k hk => .inl hk⟩
theorem pair_run {b : Nat} {w : World} {bH bG H X G Y : Nat} {x y : Exs} {c : Cfg} {tv : Value} {d e : List Ev} {N : Int} (u : Int) (h : Pair b w bH bG H X G Y x y c tv d e) (hi : ExIn x N) (hlen : d.length + (exRun u 3000 x).2.length ≤ 900000000) :
    Calls Try.prog 16 #[.pointer (some ⟨H, 0, none⟩), .int .i64 u] w fun r w' => r = .returned (.tuple #[]) ∧ Pair b w' bH bG H X G Y (exRun u 3000 x).1 y c tv (d ++ (exRun u 3000 x).2) e ∧ Below b w w' := by
  obtain ⟨⟨O, Q, h1, h2, h3, h4⟩, h5, h6, h7⟩ := h
  refine (run1_any O bH H X N u x c tv d w h1 hi h5 hlen).mono ?_
  rintro r w' ⟨rfl, p, f⟩
  exact ⟨rfl, Pair.turn h2 h3 h4 h5 h6 h7 p f fun k hk => hk⟩
/-- Feed, of bytes that lie in a block that was new at w. -/
theorem pair_feed {b : Nat} {w w5 : World} {bH bG H X G Y : Nat} {x y : Exs} {c : Cfg} {tv bv : Value} {d e : List Ev} {N : Int} (n t : Int) (bs : List Int) (h : Pair b w bH bG H X G Y x y c tv d e) (hi : ExIn x N) (hbl : bs.length ≤ 140737488355328) (hb5 : Below w.heap.size w w5) (hbv : ∀ S : Nat → Prop, ¬ S w.heap.size → BytV w5 S bv bs) :
    Calls Try.prog 15 #[.pointer (some ⟨X, 0, none⟩), .int .i64 n, .int .i64 t, bv] w5 fun r w' => r = .returned (.int .i64 (exFeed x n t bs).2) ∧ Pair b w' bH bG H X G Y (exFeed x n t bs).1 y c tv d e ∧ Below b w w' := by
  obtain ⟨⟨O, Q, h1, h2, h3, h4⟩, h5, h6, h7⟩ := h
  have hz := hb5.size
  have h1' : Hou1 w5 (fun k => O k ∧ k < w.heap.size) bH H X x c tv d := (h1.mono fun k hk e => ⟨e, hk⟩).later hb5
  refine (feed1_any (fun k => O k ∧ k < w.heap.size) bH H X N n t x c tv bv d bs w5 h1' (hbv _ fun e => Nat.lt_irrefl _ e.2) hbl (by omega) hi).mono ?_
  rintro r w' ⟨rfl, p, f⟩
  obtain ⟨q1, q2⟩ := Pair.turn (h2.later hb5) (fun k hk => h3 k hk.1) h4 (by omega) (by omega) (by omega) p f fun k hk => hk
  exact ⟨rfl, q1, (hb5.mono h7).trans q2⟩

/-- A run in steps: what is left of the whole. -/
structure Steps (u : Int) (x0 : Exs) (e0 : List Ev) (y : Exs) (e : List Ev) : Prop where
  x : (exRun u 3000 y).1 = (exRun u 3000 x0).1
  e : e ++ (exRun u 3000 y).2 = e0 ++ (exRun u 3000 x0).2
theorem Steps.refl (u : Int) (x0 : Exs) (e0 : List Ev) : Steps u x0 e0 x0 e0 := ⟨rfl, rfl⟩
theorem Steps.next {u : Int} {x0 y : Exs} {e0 e : List Ev} {N : Int} (h : Steps u x0 e0 y e) (hi : ExIn y N) (hu : y.clock < u) (hc : y.clock < 3000) : Steps u x0 e0 (exRun (y.clock + 1) 3000 y).1 (e ++ (exRun (y.clock + 1) 3000 y).2) := by
  rw [exRun_one hi hc]
  have h1 := h.x
  have h2 := h.e
  rw [exRun_first hi hu hc] at h1 h2
  exact ⟨h1, by rw [List.append_assoc]; exact h2⟩
theorem Steps.end {u : Int} {x0 y : Exs} {e0 e : List Ev} (h : Steps u x0 e0 y e) (hu : u ≤ y.clock) : y = (exRun u 3000 x0).1 ∧ e = e0 ++ (exRun u 3000 x0).2 := by
  have h1 := h.x
  have h2 := h.e
  rw [exRun_none hu] at h1 h2
  exact ⟨h1, by simpa using h2⟩
theorem Steps.len {u : Int} {x0 y : Exs} {e0 e : List Ev} (h : Steps u x0 e0 y e) : e.length ≤ (e0 ++ (exRun u 3000 x0).2).length := by
  rw [← h.e, List.length_append]
  omega

theorem exFeed_nil {x : Exs} {n t N : Int} (hi : ExIn x N) (hn : 0 ≤ n ∧ n < x.cfg.lines) (ht : x.clock ≤ t ∧ x.fed ≤ t ∧ t < 1000) : alike x (exFeed x n t []).1 := by
  unfold exFeed
  rw [if_pos (by omega), if_neg (by omega)]
  refine alike.of rfl ?_ rfl rfl ?_
  · simp only [lineFeed, List.foldl_nil]
    apply List.ext_getElem?
    intro i
    rw [List.getElem?_set]
    split
    · rename_i h
      subst h
      split
      · rename_i h
        rw [List.getD_eq_getElem?_getD, List.getElem?_eq_getElem h]
        rfl
      · rename_i h
        rw [List.getElem?_eq_none (by omega)]
    · rfl
  · simp only [lineFeed, List.foldl_nil, Int.add_zero]
    rw [IntWalk.i64_in _ hi.sp0]
theorem alike.symm {x y : Exs} (h : alike x y) : alike y x := by
  obtain ⟨h1, h2, h3, h4, h5⟩ := h.parts
  exact alike.of h1.symm h2.symm h3.symm h4.symm h5.symm
theorem alike.trans {x y z : Exs} (h : alike x y) (k : alike y z) : alike x z := by
  obtain ⟨h1, h2, h3, h4, h5⟩ := h.parts
  obtain ⟨k1, k2, k3, k4, k5⟩ := k.parts
  exact alike.of (k1.trans h1) (k2.trans h2) (k3.trans h3) (k4.trans h4) (k5.trans h5)

/-- Bytes that come one by one: y has got some of them already; the others are left. -/
structure Bits (n t M : Int) (z y : Exs) (left : List Int) : Prop where
  al : alike z (exFeed y n t left).1
  ii : ∃ N, ExIn y N
  cf : y.cfg = z.cfg
  fd : y.fed ≤ t
  ck : y.clock = M
theorem Bits.next {n t M : Int} {z y : Exs} {b : Int} {bs : List Int} (h : Bits n t M z y (b :: bs)) (hb : 0 ≤ b ∧ b < 256) (hn : 0 ≤ n ∧ n < z.cfg.lines) (ht : M ≤ t ∧ t < 1000) : Bits n t M z (exFeed y n t [b]).1 bs ∧ (exFeed y n t [b]).2 = 0 := by
  have hcf := h.cf
  have hck := h.ck
  have hfd := h.fd
  have hn' : 0 ≤ n ∧ n < y.cfg.lines := by rw [hcf]; exact hn
  have ht' : y.clock ≤ t ∧ y.fed ≤ t ∧ t < 1000 := by omega
  have e2 : exFeed y n t [b] = ((exFeed y n t [b]).1, 0) := by
    unfold exFeed
    rw [if_pos (by omega), if_neg (by omega)]
  have e3 : (exFeed y n t [b]).2 = 0 := by rw [e2]
  have e4 : (exFeed y n t [b]).1.cfg = y.cfg ∧ (exFeed y n t [b]).1.fed = t ∧ (exFeed y n t [b]).1.clock = y.clock := by
    unfold exFeed
    rw [if_pos (by omega), if_neg (by omega)]
    exact ⟨rfl, rfl, rfl⟩
  obtain ⟨N, hN⟩ := h.ii
  obtain ⟨N', hi, -⟩ := exFeed_in (line := n) (t := t) (bs := [b]) hN (by simpa using hb)
  exact ⟨⟨h.al.trans (exFeed_cons hn' hN.nl ht'), ⟨N', hi⟩, e4.1.trans hcf, by rw [e4.2.1]; omega, e4.2.2.trans hck⟩, e3⟩
theorem Bits.end {n t M : Int} {z y : Exs} (h : Bits n t M z y []) (hn : 0 ≤ n ∧ n < z.cfg.lines) (ht : M ≤ t ∧ t < 1000) : alike z y ∧ ∃ N, ExIn y N := by
  have hcf := h.cf
  have hck := h.ck
  have hfd := h.fd
  obtain ⟨N, hN⟩ := h.ii
  exact ⟨h.al.trans (exFeed_nil hN (by rw [hcf]; exact hn) (by omega)).symm, N, hN⟩

/-- One byte out of a string. -/
theorem strB_one {s : ByteArray} {k : Nat} (h : k < s.size) : ∃ b, (strB s).drop k = b :: (strB s).drop (k + 1) ∧ strB (s.extract k (k + 1)) = [b] := by
  have hl : k < (strB s).length := by rw [strB_length]; exact h
  refine ⟨(strB s)[k], List.drop_eq_getElem_cons hl, ?_⟩
  have h1 : (s.extract k (k + 1)).size = 1 := by rw [ByteArray.size_extract]; omega
  have h2 : (strB (s.extract k (k + 1))).length = 1 := by rw [strB_length]; exact h1
  obtain ⟨a, ha⟩ := List.length_eq_one_iff.1 h2
  rw [ha]
  have h3 : (strB (s.extract k (k + 1)))[0]? = some a := by rw [ha]; rfl
  have h4 : (strB s)[k]? = some a := by
    rw [← h3]
    simp only [strB, List.getElem?_map, Array.getElem?_toList, ByteArray.data_extract]
    rw [Array.getElem?_extract]
    have : k < s.data.size := h
    rw [if_pos (by simp only [ByteArray.size] at h; omega)]
    rfl
  rw [List.getElem?_eq_getElem hl] at h4
  simp only [Option.some.injEq] at h4
  rw [h4]

/-- The events of a house, cell by cell. -/
theorem Pair.row {b : Nat} {w : World} {bH bG H X G Y : Nat} {x y : Exs} {c : Cfg} {tv : Value} {d e : List Ev} (h : Pair b w bH bG H X G Y x y c tv d e) : ∃ da dc, w.cell? ⟨H, 9, none⟩ = some (.slice da d.length dc) ∧ ∀ i ev, d[i]? = some ev → ∃ dg, da = some ⟨dg, 0, none⟩ ∧ dg < w.heap.size ∧ w.cell? ⟨dg, i * 5, none⟩ = some (.int .i64 ev.kind) ∧ w.cell? ⟨dg, i * 5 + 1, none⟩ = some (.int .i64 ev.tick) ∧ w.cell? ⟨dg, i * 5 + 2, none⟩ = some (.int .i64 ev.job) ∧ w.cell? ⟨dg, i * 5 + 3, none⟩ = some (.int .i64 ev.task) ∧ w.cell? ⟨dg, i * 5 + 4, none⟩ = some (.int .i64 ev.deadline) := by
  obtain ⟨⟨O, Q, ⟨S, dv, p, ho⟩, h2, h3, h4⟩, h5, h6, h7⟩ := h
  obtain ⟨da, dc, hdv⟩ := ownsRow_slice p.ev
  refine ⟨da, dc, by rw [← hdv]; exact p.blk.cell 9, fun i ev hev => ?_⟩
  have hil := lt_of_get hev
  obtain ⟨dg, dcap, hdg, -, -⟩ := ownsRow_some p.ev (by omega)
  rw [hdg] at hdv
  simp only [Value.slice.injEq, true_and] at hdv
  obtain ⟨rfl, rfl⟩ := hdv
  subst hdg
  refine ⟨dg, rfl, (ownsRow_lt p.ev (k := dg) rfl).2, ?_⟩
  have h5 : ∀ c ∈ d.map evCells, c.length = 5 := by
    intro c hc
    obtain ⟨j, _, rfl⟩ := List.mem_map.1 hc
    rfl
  have hc : ∀ j v, j < 5 → (evCells ev)[j]? = some v → w.cell? ⟨dg, i * 5 + j, none⟩ = some v := fun j v hj hv => by
    have hg : (erow d)[i * 5 + j]? = some v := by
      rw [erow, flatten_get h5 i j hj, List.getElem?_map, hev]
      exact hv
    have h1 := World.ownsRow.cells (g := dg) p.ev (by rfl) (i * 5 + j) _ hg
    rw [Addr.add] at h1
    split at h1
    · rename_i h0; rw [h0]; exact h1
    · simpa using h1
  exact ⟨hc 0 _ (by decide) rfl, hc 1 _ (by decide) rfl, hc 2 _ (by decide) rfl, hc 3 _ (by decide) rfl, hc 4 _ (by decide) rfl⟩

end Go.Proofs.Ythloffgebebijaa
