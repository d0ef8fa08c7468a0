/- PieD: what stands at each place of tillerkeep.Pieces, and what its calls make of it. -/
import Derived.Test.YthloffgebebijaaPieC
namespace Go.Proofs.Ythloffgebebijaa
open Go.RowKit Go.MuLone

/-- What stands in Pieces' loop: two houses that are alike, the last tick; no clock is behind L. -/
structure PieP (V w : World) (bG H X G Y : Nat) (c : Cfg) (tv : Value) (L at' : Int) : Prop where
  two : ∃ x y d, Pair V.heap.size w V.heap.size bG H X G Y x y c tv d d ∧ alike x y ∧ (∃ N, ExIn x N) ∧ (∃ N, ExIn y N) ∧ x.cfg = c ∧ x.fed ≤ at' ∧ y.fed ≤ at' ∧ x.clock ≤ L ∧ (d.length : Int) ≤ 34 * x.clock
  bel : Below V.heap.size V w
theorem PieP.later {V w w' : World} {bG H X G Y : Nat} {c : Cfg} {tv : Value} {L at' : Int} (h : PieP V w bG H X G Y c tv L at') (hb : Below w.heap.size w w') : PieP V w' bG H X G Y c tv L at' := by
  obtain ⟨⟨x, y, d, p, r⟩, h4⟩ := h
  exact ⟨⟨x, y, d, p.later hb, r⟩, h4.trans (hb.mono h4.size)⟩
theorem PieP.six {V w : World} {bG H X G Y : Nat} {c : Cfg} {tv : Value} {L at' : Int} (h : PieP V w bG H X G Y c tv L at') : H < w.heap.size ∧ w.cell? ⟨H, 6, none⟩ = some (.pointer (some ⟨X, 0, none⟩)) := by
  obtain ⟨⟨x, y, d, p, r⟩, h4⟩ := h
  exact p.six
theorem PieP.clock {V w : World} {bG H X G Y : Nat} {c : Cfg} {tv : Value} {L at' : Int} (h : PieP V w bG H X G Y c tv L at') :
    Calls Try.prog 14 #[.pointer (some ⟨H, 0, none⟩)] w fun r w' => ∃ ck, r = .returned (.int .i64 ck) ∧ 0 ≤ ck ∧ ck ≤ L ∧ PieP V w' bG H X G Y c tv ck at' := by
  obtain ⟨⟨x, y, d, p, al, ⟨Nx, ix⟩, ⟨Ny, iy⟩, cf, fx, fy, ck, dl⟩, h4⟩ := h
  refine (pair_clock p ix).mono ?_
  rintro r w' ⟨rfl, p', b'⟩
  exact ⟨_, rfl, ix.ck0, ck, ⟨⟨x, y, d, p', al, ⟨_, ix⟩, ⟨_, iy⟩, cf, fx, fy, Int.le_refl _, dl⟩, h4.trans b'⟩⟩

/-- The first has run to u, the second is on its way there, its clock at kk. -/
structure StpP (V w : World) (bG H X G Y : Nat) (c : Cfg) (tv : Value) (L u at' kk : Int) : Prop where
  two : ∃ x y d yi di, Pair V.heap.size w V.heap.size bG H X G Y x yi c tv (d ++ (exRun u 3000 y).2) di ∧ Steps u y d yi di ∧ alike x (exRun u 3000 y).1 ∧ (∃ N, ExIn x N) ∧ (∃ N, ExIn yi N) ∧ (∃ N, ExIn (exRun u 3000 y).1 N) ∧ x.cfg = c ∧ x.fed ≤ at' ∧ (exRun u 3000 y).1.fed ≤ at' ∧ x.clock ≤ L ∧ ((d ++ (exRun u 3000 y).2).length : Int) ≤ 34 * x.clock ∧ yi.clock = kk
  k0 : 0 ≤ kk
  k1 : kk ≤ 3294
  bel : Below V.heap.size V w
theorem PieP.run {V w : World} {bG H X G Y : Nat} {c : Cfg} {tv : Value} {L at' : Int} (h : PieP V w bG H X G Y c tv L at') {u L' : Int} (hL : L ≤ L') (hu : u + 294 ≤ L') :
    Calls Try.prog 16 #[.pointer (some ⟨H, 0, none⟩), .int .i64 u] w fun r w' => ∃ kk, r = .returned (.tuple #[]) ∧ StpP V w' bG H X G Y c tv L' u at' kk := by
  obtain ⟨⟨x, y, d, p, al, ⟨Nx, ix⟩, ⟨Ny, iy⟩, cf, fx, fy, ck, dl⟩, h4⟩ := h
  have hrc := exRun_cnt u 3000 ix
  have hri := exRun_in u 3000 ix
  have hrj := exRun_in u 3000 iy
  have hrd := exRun_cnt u 3000 iy
  obtain ⟨ha, he⟩ := exRun_alike u 3000 al
  have h0 := ix.ck0
  have h1 := hri.ck1
  refine (pair_run u p ix (by have := hrc.2.2.2.2.1; omega)).mono ?_
  rintro r w' ⟨rfl, p', b'⟩
  rw [← he] at p'
  refine ⟨y.clock, rfl, ⟨⟨_, y, d, y, d, p', Steps.refl _ _ _, ha, ⟨_, hri⟩, ⟨_, iy⟩, ⟨_, hrj⟩, hrc.2.2.2.2.2.2.trans cf, by rw [hrc.2.2.2.2.2.1]; exact fx, by rw [hrd.2.2.2.2.2.1]; exact fy, ?_, ?_, rfl⟩, iy.ck0, iy.ck1, h4.trans b'⟩⟩
  · have := hrc.1
    omega
  · have h5 := hrc.2.2.2.2.1
    have h6 := hrc.2.1
    rw [he, List.length_append]
    omega
theorem StpP.clock {V w : World} {bG H X G Y : Nat} {c : Cfg} {tv : Value} {L u at' kk : Int} (h : StpP V w bG H X G Y c tv L u at' kk) :
    Calls Try.prog 14 #[.pointer (some ⟨G, 0, none⟩)] w fun r w' => r = .returned (.int .i64 kk) ∧ StpP V w' bG H X G Y c tv L u at' kk := by
  obtain ⟨⟨x, y, d, yi, di, p, st, al, ⟨Nx, ix⟩, ⟨Ny, iy⟩, ⟨Ne, ie⟩, cf, fx, fy, ck, dl, hk⟩, k0, k1, h4⟩ := h
  subst hk
  refine (pair_clock p.swap iy).mono ?_
  rintro r w' ⟨rfl, p', b'⟩
  exact ⟨rfl, ⟨⟨x, y, d, yi, di, p'.swap, st, al, ⟨_, ix⟩, ⟨_, iy⟩, ⟨_, ie⟩, cf, fx, fy, ck, dl, rfl⟩, k0, k1, h4.trans b'⟩⟩
theorem StpP.step {V w : World} {bG H X G Y : Nat} {c : Cfg} {tv : Value} {L u at' kk : Int} (h : StpP V w bG H X G Y c tv L u at' kk) (hu : kk < u) (h3 : kk < 3000) :
    Calls Try.prog 16 #[.pointer (some ⟨G, 0, none⟩), .int .i64 (kk + 1)] w fun r w' => ∃ k2, r = .returned (.tuple #[]) ∧ kk < k2 ∧ StpP V w' bG H X G Y c tv L u at' k2 := by
  obtain ⟨⟨x, y, d, yi, di, p, st, al, ⟨Nx, ix⟩, ⟨Ny, iy⟩, ⟨Ne, ie⟩, cf, fx, fy, ck, dl, hk⟩, k0, k1, h4⟩ := h
  subst hk
  have hst := st.next iy hu h3
  have hln := hst.len
  have hxc := ix.ck1
  have hri := exRun_in (yi.clock + 1) 3000 iy
  have hre := exRun_end (yi.clock + 1) 3000 iy (by omega)
  refine (pair_run (yi.clock + 1) p.swap iy (by rw [← List.length_append]; omega)).mono ?_
  rintro r w' ⟨rfl, p', b'⟩
  exact ⟨_, rfl, by omega, ⟨⟨x, y, d, _, _, p'.swap, hst, al, ⟨_, ix⟩, ⟨_, hri⟩, ⟨_, ie⟩, cf, fx, fy, ck, dl, rfl⟩, hri.ck0, hri.ck1, h4.trans b'⟩⟩
theorem StpP.end {V w : World} {bG H X G Y : Nat} {c : Cfg} {tv : Value} {L u at' kk : Int} (h : StpP V w bG H X G Y c tv L u at' kk) (hu : u ≤ kk) : PieP V w bG H X G Y c tv L at' := by
  obtain ⟨⟨x, y, d, yi, di, p, st, al, ⟨Nx, ix⟩, ⟨Ny, iy⟩, ⟨Ne, ie⟩, cf, fx, fy, ck, dl, hk⟩, k0, k1, h4⟩ := h
  subst hk
  obtain ⟨rfl, rfl⟩ := st.end hu
  exact ⟨⟨x, _, _, p, al, ⟨_, ix⟩, ⟨_, iy⟩, cf, fx, fy, ck, dl⟩, h4⟩

/-- The first has got all of the bytes, the second has still to get the rest. -/
structure BitP (V w : World) (bG H X G Y : Nat) (c : Cfg) (tv : Value) (L n t : Int) (left : List Int) : Prop where
  two : ∃ z y d M, Pair V.heap.size w V.heap.size bG H X G Y z y c tv d d ∧ Bits n t M z y left ∧ (∃ N, ExIn z N) ∧ z.cfg = c ∧ z.fed ≤ t ∧ z.clock ≤ L ∧ (d.length : Int) ≤ 34 * z.clock ∧ M ≤ t
  bel : Below V.heap.size V w
theorem BitP.six {V w : World} {bG H X G Y : Nat} {c : Cfg} {tv : Value} {L n t : Int} {left : List Int} (h : BitP V w bG H X G Y c tv L n t left) : G < w.heap.size ∧ w.cell? ⟨G, 6, none⟩ = some (.pointer (some ⟨Y, 0, none⟩)) := by
  obtain ⟨⟨z, y, d, M, p, r⟩, h4⟩ := h
  exact p.swap.six
theorem PieP.feed {V w w5 : World} {bG H X G Y : Nat} {c : Cfg} {tv bv : Value} {L at' : Int} (h : PieP V w bG H X G Y c tv L at') {n A : Int} {bs : List Int} (hn : 0 ≤ n ∧ n < c.lines) (hA : L ≤ A ∧ at' ≤ A ∧ A < 1000) (hbs : ∀ b ∈ bs, 0 ≤ b ∧ b < 256) (hbl : bs.length ≤ 140737488355328) (hb5 : Below w.heap.size w w5) (hbv : ∀ S : Nat → Prop, ¬ S w.heap.size → BytV w5 S bv bs) :
    Calls Try.prog 15 #[.pointer (some ⟨X, 0, none⟩), .int .i64 n, .int .i64 A, bv] w5 fun r w' => r = .returned (.int .i64 0) ∧ BitP V w' bG H X G Y c tv L n A bs := by
  obtain ⟨⟨x, y, d, p, al, ⟨Nx, ix⟩, ⟨Ny, iy⟩, cf, fx, fy, ck, dl⟩, h4⟩ := h
  have hn' : 0 ≤ n ∧ n < x.cfg.lines := by rw [cf]; exact hn
  obtain ⟨p1, p2, p3, p4, p5⟩ := al.parts
  have e1 : (exFeed x n A bs).2 = 0 ∧ (exFeed x n A bs).1.cfg = x.cfg ∧ (exFeed x n A bs).1.fed = A ∧ (exFeed x n A bs).1.clock = x.clock := by
    unfold exFeed
    rw [if_pos (by omega), if_neg (by omega)]
    exact ⟨rfl, rfl, rfl, rfl⟩
  obtain ⟨N', hi, -⟩ := exFeed_in (line := n) (t := A) (bs := bs) ix hbs
  refine (pair_feed n A bs p ix hbl hb5 hbv).mono ?_
  rintro r w' ⟨rfl, p', b'⟩
  rw [e1.1]
  exact ⟨rfl, ⟨⟨_, y, d, x.clock, p', ⟨exFeed_alike al hn' (by omega) (by omega), ⟨_, iy⟩, p1.trans e1.2.1.symm, by omega, p4⟩, ⟨_, hi⟩, e1.2.1.trans cf, by rw [e1.2.2.1]; omega, by rw [e1.2.2.2]; exact ck, by rw [e1.2.2.2]; exact dl, by omega⟩, h4.trans b'⟩⟩
theorem BitP.feed {V w w5 : World} {bG H X G Y : Nat} {c : Cfg} {tv bv : Value} {L n t b : Int} {bs : List Int} (h : BitP V w bG H X G Y c tv L n t (b :: bs)) (hn : 0 ≤ n ∧ n < c.lines) (hA : t < 1000) (hbs : 0 ≤ b ∧ b < 256) (hb5 : Below w.heap.size w w5) (hbv : ∀ S : Nat → Prop, ¬ S w.heap.size → BytV w5 S bv [b]) :
    Calls Try.prog 15 #[.pointer (some ⟨Y, 0, none⟩), .int .i64 n, .int .i64 t, bv] w5 fun r w' => r = .returned (.int .i64 0) ∧ BitP V w' bG H X G Y c tv L n t bs := by
  obtain ⟨⟨z, y, d, M, p, bt, ⟨Nz, iz⟩, cf, fz, ck, dl, hM⟩, h4⟩ := h
  obtain ⟨bt', e0⟩ := bt.next hbs (by rw [cf]; exact hn) ⟨hM, hA⟩
  obtain ⟨N, ii⟩ := bt.ii
  refine (pair_feed n t [b] p.swap ii (by simp) hb5 hbv).mono ?_
  rintro r w' ⟨rfl, p', b'⟩
  rw [e0]
  exact ⟨rfl, ⟨⟨z, _, d, M, p'.swap, bt', ⟨_, iz⟩, cf, fz, ck, dl, hM⟩, h4.trans b'⟩⟩
theorem BitP.end {V w : World} {bG H X G Y : Nat} {c : Cfg} {tv : Value} {L n t : Int} (h : BitP V w bG H X G Y c tv L n t []) (hn : 0 ≤ n ∧ n < c.lines) (hA : t < 1000) : PieP V w bG H X G Y c tv L t := by
  obtain ⟨⟨z, y, d, M, p, bt, ⟨Nz, iz⟩, cf, fz, ck, dl, hM⟩, h4⟩ := h
  obtain ⟨al, iy⟩ := bt.end (by rw [cf]; exact hn) ⟨hM, hA⟩
  exact ⟨⟨z, y, d, p, al, ⟨_, iz⟩, iy, cf, fz, bt.fd, ck, dl⟩, h4⟩

/-- The counts of two that are alike. -/
theorem countsV_alike {x y : Exs} (h : alike x y) : countsV y = countsV x := by
  obtain ⟨h1, h2, h3, h4, h5⟩ := h.parts
  unfold countsV
  rw [h2, h3, h4, h5]
theorem PieP.counts {V w : World} {bG H X G Y : Nat} {c : Cfg} {tv : Value} {L at' : Int} (h : PieP V w bG H X G Y c tv L at') :
    ∃ cv : Exs, Calls Try.prog 17 #[.pointer (some ⟨X, 0, none⟩)] w fun r w' => r = .returned (countsV cv) ∧ Below V.heap.size V w' ∧ w'.cell? ⟨G, 6, none⟩ = some (.pointer (some ⟨Y, 0, none⟩)) ∧ G < w'.heap.size ∧ ∀ w2, Below w'.heap.size w' w2 → Calls Try.prog 17 #[.pointer (some ⟨Y, 0, none⟩)] w2 fun r w3 => r = .returned (countsV cv) ∧ Below V.heap.size w2 w3 ∧ ∀ k, w'.heap.size ≤ k → k < w2.heap.size → w3.heap[k]? = w2.heap[k]? := by
  obtain ⟨⟨x, y, d, p, al, ⟨Nx, ix⟩, ⟨Ny, iy⟩, cf, fx, fy, ck, dl⟩, h4⟩ := h
  refine ⟨x, (pair_counts p ix).mono ?_⟩
  rintro r w' ⟨rfl, p', b'⟩
  refine ⟨rfl, h4.trans b', p'.swap.six.2, p'.swap.six.1, fun w2 hb => ?_⟩
  obtain ⟨⟨O, Q, h1, h2, h3, h5⟩, h6, h7, h8⟩ := p'
  have h2' : Hou1 w' (fun k => Q k ∧ k < w'.heap.size) bG G Y y c tv d := h2.mono fun k hk e => ⟨e, hk⟩
  refine (counts1_any _ bG G Y Ny y c tv d w2 (h2'.later hb) iy).mono ?_
  rintro r w3 ⟨rfl, _, f3⟩
  have := hb.size
  exact ⟨by rw [countsV_alike al], f3.below (by omega) fun k hk => h5 k hk.1, fun k hk hk2 => f3.block k hk2 fun e => by omega⟩
theorem PieP.rows {V w : World} {bG H X G Y : Nat} {c : Cfg} {tv : Value} {L at' : Int} (h : PieP V w bG H X G Y c tv L at') : ∃ d : List Ev, d.length ≤ 200000 ∧ ∃ da dc ea ec, w.cell? ⟨H, 9, none⟩ = some (.slice da d.length dc) ∧ w.cell? ⟨G, 9, none⟩ = some (.slice ea d.length ec) ∧ H < w.heap.size ∧ G < w.heap.size ∧ ∀ i ev, d[i]? = some ev → ∃ dg eg, da = some ⟨dg, 0, none⟩ ∧ ea = some ⟨eg, 0, none⟩ ∧ dg < w.heap.size ∧ eg < w.heap.size ∧ (w.cell? ⟨dg, i * 5, none⟩ = some (.int .i64 ev.kind) ∧ w.cell? ⟨dg, i * 5 + 1, none⟩ = some (.int .i64 ev.tick) ∧ w.cell? ⟨dg, i * 5 + 2, none⟩ = some (.int .i64 ev.job) ∧ w.cell? ⟨dg, i * 5 + 3, none⟩ = some (.int .i64 ev.task) ∧ w.cell? ⟨dg, i * 5 + 4, none⟩ = some (.int .i64 ev.deadline)) ∧ (w.cell? ⟨eg, i * 5, none⟩ = some (.int .i64 ev.kind) ∧ w.cell? ⟨eg, i * 5 + 1, none⟩ = some (.int .i64 ev.tick) ∧ w.cell? ⟨eg, i * 5 + 2, none⟩ = some (.int .i64 ev.job) ∧ w.cell? ⟨eg, i * 5 + 3, none⟩ = some (.int .i64 ev.task) ∧ w.cell? ⟨eg, i * 5 + 4, none⟩ = some (.int .i64 ev.deadline)) := by
  obtain ⟨⟨x, y, d, p, al, ⟨Nx, ix⟩, ⟨Ny, iy⟩, cf, fx, fy, ck, dl⟩, h4⟩ := h
  obtain ⟨da, dc, h1, h2⟩ := p.row
  obtain ⟨ea, ec, h3, h5⟩ := p.swap.row
  have hk := ix.ck1
  refine ⟨d, by omega, da, dc, ea, ec, h1, h3, p.six.1, p.swap.six.1, fun i ev hev => ?_⟩
  obtain ⟨dg, a1, a2, a3⟩ := h2 i ev hev
  obtain ⟨eg, b1, b2, b3⟩ := h5 i ev hev
  exact ⟨dg, eg, a1, b1, a2, b2, a3, b3⟩

end Go.Proofs.Ythloffgebebijaa
