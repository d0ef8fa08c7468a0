/- StepW: the walks of tillerlaw's step at New, Feed, Run, Counts, and of Works. -/
import Derived.Test.YthloffgebebijaaGreatRigK
import Derived.Test.YthloffgebebijaaGreatLookK
import Derived.Deep.RegionHeld3
namespace Go.Proofs.YthloffgebebijaaGreat
open Go.RowKit

/-- Behind n steps: the executives, and what came out. -/
def StW (B : Nat) (w : World) (n : Nat) : Prop := ∃ own Q psv nb ni ne nl nt es xs, Rig w own B Q psv nb ni ne nl nt es xs xs ∧ nb = 0 ∧ ni = 0 ∧ ne ≤ n ∧ nl = 0 ∧ nt = 0 ∧ es.length ≤ n ∧ (∀ x ∈ xs, ∃ N, ExIn x N) ∧ (n = 0 → ∀ k, k ≠ B → own k = 0)
theorem StW.init (w : World) : StW w.heap.size (w.alloc (.cells #[.slice none 0 0, .slice none 0 0, .slice none 0 0, .slice none 0 0, .slice none 0 0, .slice none 0 0] 36)) 0 := by
  have hb : BookAt (w.alloc (.cells #[.slice none 0 0, .slice none 0 0, .slice none 0 0, .slice none 0 0, .slice none 0 0, .slice none 0 0] 36)) (fun k => k = w.heap.size) w.heap.size w.heap.size (.slice none 0 0) 0 0 0 0 0 := ⟨fun k hk => ⟨by omega, by first | (simp; omega) | (rw [hk]; simp)⟩, rfl, _, _, _, _, _, Blk.new _ _ _, Ents.nil _ _ _ _ _ _ _, Ents.nil _ _ _ _ _ _ _, Ents.nil _ _ _ _ _ _ _, Ents.nil _ _ _ _ _ _ _, Ents.nil _ _ _ _ _ _ _⟩
  have h1 : ∀ k, (if k = w.heap.size then 1 else 0) ≠ 0 → k = w.heap.size := fun k e => by
    by_cases h : k = w.heap.size
    · exact h
    · rw [if_neg h] at e; exact absurd rfl e
  refine ⟨fun k => if k = w.heap.size then 1 else 0, 0, .slice none 0 0, 0, 0, 0, 0, 0, [], [], ⟨fun k e => ⟨by have := h1 k e; omega, by have := h1 k e; simp; omega⟩, Nat.zero_le _, ?_, World.ownsRow_nil _ _ _ _, fun k e => by simp [Value.ownBlock] at e, rfl, rfl, fun i e x he => by simp at he, fun i e x he => by simp at he⟩, by omega, by omega, by omega, by omega, by omega, by simp, fun x hx => by simp at hx, fun _ k hk => if_neg hk⟩
  refine hb.wide (fun k e => if_pos e) fun k e => ?_
  have e' : (if k = w.heap.size then 1 else 0) = 1 := e
  have := h1 k (by rw [e']; decide)
  exact ⟨by omega, by simp; omega⟩
theorem StW.later (B : Nat) (w w' : World) (n : Nat) (h : StW B w n) (hb : Below w.heap.size w w') : StW B w' n := by
  obtain ⟨own, Q, psv, nb, ni, ne, nl, nt, es, xs, p, r⟩ := h
  exact ⟨own, Q, psv, nb, ni, ne, nl, nt, es, xs, p.below hb, r⟩
theorem StW.looks (B : Nat) (w : World) (n : Nat) (h : StW B w n) (hn : n ≤ 1256584717423) : Calls Tryz.prog 10 #[.pointer (some ⟨B, 1, none⟩)] w fun e w' => e = .returned (.bool true) ∧ Below w.heap.size w w' := by
  obtain ⟨own, Q, psv, nb, ni, ne, nl, nt, es, xs, p, h1, h2, h3, h4, h5, _⟩ := h
  exact looks_true _ B B _ nb ni ne nl nt w p.bk (by omega) (by omega) (by omega) (by omega) (by omega)

set_option maxRecDepth 100000 in
set_option maxHeartbeats 1600000 in
theorem step4 (own : Nat → Nat) (B Q : Nat) (Tq : Nat → Prop) (psv : Value) (nb ni ne nl nt : Nat) (es : List (Nat × Nat)) (xs : List Exs) (v : Value) (o : Stp) (w : World) (p : Rig w own B Q psv nb ni ne nl nt es xs xs) (hB : B ≤ w.heap.size) (hv : OpQ w Tq v o) (hTq : ∀ k, Tq k → k < w.heap.size ∧ own k = 0) (hok : StpW o) (hel : es.length ≤ 1300000000000) (hk : o.kind = 4) :
    Calls Tryz.prog 8 #[.pointer (some ⟨B, 0, none⟩), v] w fun r w' => r = .returned (.bool true) ∧ ∃ own' Q' psv' es' xs', Rig w' own' B Q' psv' nb ni ne nl nt es' xs' xs' ∧ es'.length ≤ es.length + 1 ∧ (∀ x ∈ xs', x ∈ xs ∨ ExIn x 0) ∧ Below B w w' := by
  obtain ⟨t, rfl, ht⟩ := hv
  obtain ⟨kind, a, b, c, s, cfg⟩ := o
  obtain ⟨x1, x2, x3, x4, x5, ts⟩ := cfg
  simp only at ht hk ⊢
  subst hk
  obtain ⟨ta, tc, rfl⟩ := ht.slice
  have HB1 : Hid (Below w.heap.size w (w.alloc (.cells #[.int .i64 4, .int .i64 a, .int .i64 b, .int .i64 c, .string s, .int .i64 x1, .int .i64 x2, .int .i64 x3, .int .i64 x4, .int .i64 x5, .slice ta ts.length tc] 43))) := (Below.refl _ _).alloc (Nat.le_refl _) _
  have HC := hide (made_true own B Q Tq psv nb ni ne nl nt es xs _ _ (w.alloc (.cells #[.int .i64 4, .int .i64 a, .int .i64 b, .int .i64 c, .string s, .int .i64 x1, .int .i64 x2, .int .i64 x3, .int .i64 x4, .int .i64 x5, .slice ta ts.length tc] 43)) (p.below HB1.out) (by simp; omega) (show OpQ _ Tq _ ⟨4, a, b, c, s, ⟨x1, x2, x3, x4, x5, ts⟩⟩ from ⟨_, rfl, ht.same fun k e => HB1.out.block k (hTq k e).1⟩) (fun k e => ⟨by simp; have := (hTq k e).1; omega, (hTq k e).2⟩) hok hel)
  clear p ht
  go_enter Tryz.func8, Tryz.ntmps8
  go_wp2_with fail
  refine HC.out.mono ?_
  rintro e w2 ⟨rfl, hp⟩
  have HP := hide hp
  clear hp
  go_wp2
  go_ret
  obtain ⟨own', psv', es', xs', q1, q2, q3, q4⟩ := HP.out
  exact ⟨rfl, own', _, psv', es', xs', q1, q2, q3, (HB1.out.mono hB).trans q4⟩

set_option maxRecDepth 100000 in
set_option maxHeartbeats 1600000 in
theorem step5 (own : Nat → Nat) (B Q : Nat) (Tq : Nat → Prop) (psv : Value) (nb ni ne nl nt : Nat) (es : List (Nat × Nat)) (xs : List Exs) (v : Value) (o : Stp) (w : World) (p : Rig w own B Q psv nb ni ne nl nt es xs xs) (hB : B ≤ w.heap.size) (hv : OpQ w Tq v o) (hTq : ∀ k, Tq k → k < w.heap.size) (hok : StpIn o) (hel : es.length ≤ 1300000000000) (_hne : ne ≤ 1300000000000) (hi : ∀ x ∈ xs, ∃ N, ExIn x N) (hk : o.kind = 5) :
    Calls Tryz.prog 8 #[.pointer (some ⟨B, 0, none⟩), v] w fun r w' => r = .returned (.bool true) ∧ ∃ own' ne' xs', Rig w' own' B Q psv nb ni ne' nl nt es xs' xs' ∧ ne' ≤ ne + 1 ∧ (∀ x ∈ xs', ∃ N, ExIn x N) ∧ Below B w w' := by
  obtain ⟨hok, hin⟩ := hok
  obtain ⟨t, rfl, ht⟩ := hv
  obtain ⟨kind, a, b, c, s, cfg⟩ := o
  obtain ⟨x1, x2, x3, x4, x5, ts⟩ := cfg
  simp only at ht hk hin ⊢
  subst hk
  obtain ⟨ta, tc, rfl⟩ := ht.slice
  have hb1 : Below w.heap.size w (w.alloc (.cells #[.int .i64 5, .int .i64 a, .int .i64 b, .int .i64 c, .string s, .int .i64 x1, .int .i64 x2, .int .i64 x3, .int .i64 x4, .int .i64 x5, .slice ta ts.length tc] 43)) := (Below.refl _ _).alloc (Nat.le_refl _) _
  have HB1 := hide hb1
  have HO1 := hide (Blk.new w #[.int .i64 5, .int .i64 a, .int .i64 b, .int .i64 c, .string s, .int .i64 x1, .int .i64 x2, .int .i64 x3, .int .i64 x4, .int .i64 x5, .slice ta ts.length tc] 43)
  have HP := hide p
  have hBw : B < w.heap.size := (p.lo B (by rw [p.bk.2.1]; decide)).2
  obtain ⟨pa, pc, hpv⟩ := ownsRow_slice p.row
  have HBB : Hid (∃ cs, Blk w B cs 36 ∧ cs[0]? = some (.slice pa es.length pc)) := by
    obtain ⟨_, _, vb, vi, ve, vl, vt, hb, _⟩ := p.bk
    exact ⟨_, hb, by rw [hpv]; rfl⟩
  obtain ⟨cs, hbb, hcs0⟩ := HBB.out
  have b0 : w.cell? ⟨B, 0, none⟩ = some (.slice pa es.length pc) := (hbb.cell 0).trans hcs0
  have HIN := hide hin
  have HII := hide hi
  by_cases hel0 : es.length = 0
  · rw [hel0] at b0
    clear p ht hb1 hbb hcs0 hin hi hpv
    go_enter Tryz.func8, Tryz.ntmps8
    go_wp2_with fail
    go_ret
    exact ⟨rfl, own, ne, xs, HP.out.below HB1.out, by omega, HII.out, HB1.out.mono hB⟩
  · have hm0 : 0 < es.length := Nat.pos_of_ne_zero hel0
    obtain ⟨i, hpk⟩ : ∃ i : Nat, pk a (es.length : Int) = i := ⟨(pk a (es.length : Int)).toNat, by have := pk_lo a (es.length : Int) (by omega); omega⟩
    have hil : i < es.length := by have := pk_hi a (es.length : Int) (by omega); omega
    obtain ⟨e, he⟩ := get_of_lt (l := es) (k := i) hil
    obtain ⟨x, hx⟩ := get_of_lt (l := xs) (k := i) (by rw [p.lx]; exact hil)
    obtain ⟨N, hix⟩ := hi x (List.mem_of_getElem? hx)
    have HPK := hide (lawPick_any a (es.length : Int) ((w.alloc (.cells #[.int .i64 5, .int .i64 a, .int .i64 b, .int .i64 c, .string s, .int .i64 x1, .int .i64 x2, .int .i64 x3, .int .i64 x4, .int .i64 x5, .slice ta ts.length tc] 43)).drew) hin.1 (by omega) (by omega))
    rw [hpk] at HPK
    obtain ⟨pg, pcap, hpg, hpc1, -⟩ := ownsRow_some p.row hm0
    rw [hpv] at hpg
    simp only [Value.slice.injEq, true_and] at hpg
    obtain ⟨rfl, rfl⟩ := hpg
    have hrow := p.row
    rw [hpv] at hrow
    have hpgl := (ownsRow_lt hrow (k := pg) rfl).2
    have hcell : ∀ q u, q < 2 → ([Value.pointer (some ⟨e.1, 0, none⟩), Value.pointer (some ⟨e.2, 0, none⟩)] : List Value)[q]? = some u → w.cell? ⟨pg, i * 2 + q, none⟩ = some u := fun q u hq hu => by
      have hg : (prow es)[i * 2 + q]? = some u := by
        rw [prow, flatten_get (k := 2) (fun c hc => by
          obtain ⟨j, _, rfl⟩ := List.mem_map.1 hc
          rfl) i q hq, List.getElem?_map, he]
        exact hu
      have h1 := World.ownsRow.cells (g := pg) hrow (by rfl) (i * 2 + q) _ hg
      rw [Addr.add] at h1
      split at h1
      · rename_i h0; rw [h0]; exact h1
      · simpa using h1
    have g0 : w.cell? ⟨pg, i * 2, none⟩ = some (.pointer (some ⟨e.1, 0, none⟩)) := hcell 0 _ (by decide) rfl
    have g1 : w.cell? ⟨pg, i * 2 + 1, none⟩ = some (.pointer (some ⟨e.2, 0, none⟩)) := hcell 1 _ (by decide) rfl
    have hbd : Below w.heap.size w (w.alloc (.cells #[.int .i64 5, .int .i64 a, .int .i64 b, .int .i64 c, .string s, .int .i64 x1, .int .i64 x2, .int .i64 x3, .int .i64 x4, .int .i64 x5, .slice ta ts.length tc] 43)).drew := hb1.drew
    have HBD := hide hbd
    have HWK := hide (works5 own B Q (w.alloc (.cells #[.int .i64 5, .int .i64 a, .int .i64 b, .int .i64 c, .string s, .int .i64 x1, .int .i64 x2, .int .i64 x3, .int .i64 x4, .int .i64 x5, .slice ta ts.length tc] 43)).drew.heap.size psv nb ni ne nl nt es xs i e x N _ _ ((w.alloc (.cells #[.int .i64 5, .int .i64 a, .int .i64 b, .int .i64 c, .string s, .int .i64 x1, .int .i64 x2, .int .i64 x3, .int .i64 x4, .int .i64 x5, .slice ta ts.length tc] 43)).drew) (p.below hbd) (by have := hbd.size; omega) (show Op1 _ _ _ ⟨5, a, b, c, s, ⟨x1, x2, x3, x4, x5, ts⟩⟩ from ⟨_, rfl, (ht.same fun k e => hbd.block k (hTq k e)).tasks fun k e => by have := hTq k e; have := hbd.size; omega⟩) hok hin he hx hix rfl)
    have hii : (i : Int) < (es.length : Int) := by omega
    have hi0 : (0 : Int) ≤ (i : Int) := by omega
    have hmi : (0 : Int) < (es.length : Int) := by omega
    have HXS : Hid (∀ x' N', ExIn x' N' → ∀ y ∈ xs.set i x', ∃ N, ExIn y N) := fun x' N' h1 y hy => by
      rcases List.mem_or_eq_of_mem_set hy with hy | rfl
      · exact HII.out y hy
      · exact ⟨N', h1⟩
    have hown0 : own w.heap.size = 0 := own_new p (Nat.le_refl _)
    have HSS : Hid (∀ w3, (∃ own' ne' x' N', Rig w3 own' B Q psv nb ni ne' nl nt es (xs.set i x') (xs.set i x') ∧ ExIn x' N' ∧ ne' ≤ ne + 1 ∧ Fr (fun k => own k ≠ 0) (w.alloc (.cells #[.int .i64 5, .int .i64 a, .int .i64 b, .int .i64 c, .string s, .int .i64 x1, .int .i64 x2, .int .i64 x3, .int .i64 x4, .int .i64 x5, .slice ta ts.length tc] 43)).drew w3) → w3.cell? ⟨w.heap.size, 0, none⟩ = some (.int .i64 5) ∧ w3.cell? ⟨w.heap.size, 1, none⟩ = some (.int .i64 a) ∧ w3.cell? ⟨w.heap.size, 2, none⟩ = some (.int .i64 b) ∧ w3.cell? ⟨w.heap.size, 3, none⟩ = some (.int .i64 c) ∧ w3.cell? ⟨w.heap.size, 4, none⟩ = some (.string s) ∧ w3.cell? ⟨w.heap.size, 5, none⟩ = some (.int .i64 x1) ∧ w3.cell? ⟨w.heap.size, 6, none⟩ = some (.int .i64 x2) ∧ w3.cell? ⟨w.heap.size, 7, none⟩ = some (.int .i64 x3) ∧ w3.cell? ⟨w.heap.size, 8, none⟩ = some (.int .i64 x4) ∧ w3.cell? ⟨w.heap.size, 9, none⟩ = some (.int .i64 x5) ∧ w3.cell? ⟨w.heap.size, 10, none⟩ = some (.slice ta ts.length tc) ∧ w3.cell? ⟨B, 0, none⟩ = some (.slice (some ⟨pg, 0, none⟩) es.length pc) ∧ w3.cell? ⟨pg, i * 2, none⟩ = some (.pointer (some ⟨e.1, 0, none⟩)) ∧ w3.cell? ⟨pg, i * 2 + 1, none⟩ = some (.pointer (some ⟨e.2, 0, none⟩))) := fun w3 ⟨own', ne', x', N', h1, _, _, h5⟩ => by
      have hbo : Blk w3 w.heap.size #[.int .i64 5, .int .i64 a, .int .i64 b, .int .i64 c, .string s, .int .i64 x1, .int .i64 x2, .int .i64 x3, .int .i64 x4, .int .i64 x5, .slice ta ts.length tc] 43 := (h5.block w.heap.size (by simp) (fun e => e hown0)).trans (Blk.new w #[.int .i64 5, .int .i64 a, .int .i64 b, .int .i64 c, .string s, .int .i64 x1, .int .i64 x2, .int .i64 x3, .int .i64 x4, .int .i64 x5, .slice ta ts.length tc] 43).drew
      have hrow3 := h1.row
      rw [hpv] at hrow3
      have hcell3 : ∀ q u, q < 2 → ([Value.pointer (some ⟨e.1, 0, none⟩), Value.pointer (some ⟨e.2, 0, none⟩)] : List Value)[q]? = some u → w3.cell? ⟨pg, i * 2 + q, none⟩ = some u := fun q u hq hu => by
        have hg : (prow es)[i * 2 + q]? = some u := by
          rw [prow, flatten_get (k := 2) (fun c hc => by
            obtain ⟨j, _, rfl⟩ := List.mem_map.1 hc
            rfl) i q hq, List.getElem?_map, he]
          exact hu
        have h1 := World.ownsRow.cells (g := pg) hrow3 (by rfl) (i * 2 + q) _ hg
        rw [Addr.add] at h1
        split at h1
        · rename_i h0; rw [h0]; exact h1
        · simpa using h1
      obtain ⟨_, _, vb, vi, ve, vl, vt, hb3, _⟩ := h1.bk
      rw [hpv] at hb3
      exact ⟨hbo.cell 0, hbo.cell 1, hbo.cell 2, hbo.cell 3, hbo.cell 4, hbo.cell 5, hbo.cell 6, hbo.cell 7, hbo.cell 8, hbo.cell 9, hbo.cell 10, hb3.cell 0, hcell3 0 _ (by decide) rfl, hcell3 1 _ (by decide) rfl⟩
    have HS0 : Hid ((w.alloc (.cells #[.int .i64 5, .int .i64 a, .int .i64 b, .int .i64 c, .string s, .int .i64 x1, .int .i64 x2, .int .i64 x3, .int .i64 x4, .int .i64 x5, .slice ta ts.length tc] 43)).drew.cell? ⟨w.heap.size, 0, none⟩ = some (.int .i64 5) ∧ (w.alloc (.cells #[.int .i64 5, .int .i64 a, .int .i64 b, .int .i64 c, .string s, .int .i64 x1, .int .i64 x2, .int .i64 x3, .int .i64 x4, .int .i64 x5, .slice ta ts.length tc] 43)).drew.cell? ⟨w.heap.size, 1, none⟩ = some (.int .i64 a) ∧ (w.alloc (.cells #[.int .i64 5, .int .i64 a, .int .i64 b, .int .i64 c, .string s, .int .i64 x1, .int .i64 x2, .int .i64 x3, .int .i64 x4, .int .i64 x5, .slice ta ts.length tc] 43)).drew.cell? ⟨w.heap.size, 2, none⟩ = some (.int .i64 b) ∧ (w.alloc (.cells #[.int .i64 5, .int .i64 a, .int .i64 b, .int .i64 c, .string s, .int .i64 x1, .int .i64 x2, .int .i64 x3, .int .i64 x4, .int .i64 x5, .slice ta ts.length tc] 43)).drew.cell? ⟨w.heap.size, 3, none⟩ = some (.int .i64 c) ∧ (w.alloc (.cells #[.int .i64 5, .int .i64 a, .int .i64 b, .int .i64 c, .string s, .int .i64 x1, .int .i64 x2, .int .i64 x3, .int .i64 x4, .int .i64 x5, .slice ta ts.length tc] 43)).drew.cell? ⟨w.heap.size, 4, none⟩ = some (.string s) ∧ (w.alloc (.cells #[.int .i64 5, .int .i64 a, .int .i64 b, .int .i64 c, .string s, .int .i64 x1, .int .i64 x2, .int .i64 x3, .int .i64 x4, .int .i64 x5, .slice ta ts.length tc] 43)).drew.cell? ⟨w.heap.size, 5, none⟩ = some (.int .i64 x1) ∧ (w.alloc (.cells #[.int .i64 5, .int .i64 a, .int .i64 b, .int .i64 c, .string s, .int .i64 x1, .int .i64 x2, .int .i64 x3, .int .i64 x4, .int .i64 x5, .slice ta ts.length tc] 43)).drew.cell? ⟨w.heap.size, 6, none⟩ = some (.int .i64 x2) ∧ (w.alloc (.cells #[.int .i64 5, .int .i64 a, .int .i64 b, .int .i64 c, .string s, .int .i64 x1, .int .i64 x2, .int .i64 x3, .int .i64 x4, .int .i64 x5, .slice ta ts.length tc] 43)).drew.cell? ⟨w.heap.size, 7, none⟩ = some (.int .i64 x3) ∧ (w.alloc (.cells #[.int .i64 5, .int .i64 a, .int .i64 b, .int .i64 c, .string s, .int .i64 x1, .int .i64 x2, .int .i64 x3, .int .i64 x4, .int .i64 x5, .slice ta ts.length tc] 43)).drew.cell? ⟨w.heap.size, 8, none⟩ = some (.int .i64 x4) ∧ (w.alloc (.cells #[.int .i64 5, .int .i64 a, .int .i64 b, .int .i64 c, .string s, .int .i64 x1, .int .i64 x2, .int .i64 x3, .int .i64 x4, .int .i64 x5, .slice ta ts.length tc] 43)).drew.cell? ⟨w.heap.size, 9, none⟩ = some (.int .i64 x5) ∧ (w.alloc (.cells #[.int .i64 5, .int .i64 a, .int .i64 b, .int .i64 c, .string s, .int .i64 x1, .int .i64 x2, .int .i64 x3, .int .i64 x4, .int .i64 x5, .slice ta ts.length tc] 43)).drew.cell? ⟨w.heap.size, 10, none⟩ = some (.slice ta ts.length tc) ∧ (w.alloc (.cells #[.int .i64 5, .int .i64 a, .int .i64 b, .int .i64 c, .string s, .int .i64 x1, .int .i64 x2, .int .i64 x3, .int .i64 x4, .int .i64 x5, .slice ta ts.length tc] 43)).drew.cell? ⟨B, 0, none⟩ = some (.slice (some ⟨pg, 0, none⟩) es.length pc) ∧ (w.alloc (.cells #[.int .i64 5, .int .i64 a, .int .i64 b, .int .i64 c, .string s, .int .i64 x1, .int .i64 x2, .int .i64 x3, .int .i64 x4, .int .i64 x5, .slice ta ts.length tc] 43)).drew.cell? ⟨pg, i * 2, none⟩ = some (.pointer (some ⟨e.1, 0, none⟩)) ∧ (w.alloc (.cells #[.int .i64 5, .int .i64 a, .int .i64 b, .int .i64 c, .string s, .int .i64 x1, .int .i64 x2, .int .i64 x3, .int .i64 x4, .int .i64 x5, .slice ta ts.length tc] 43)).drew.cell? ⟨pg, i * 2 + 1, none⟩ = some (.pointer (some ⟨e.2, 0, none⟩))) := HSS.out _ ⟨own, ne, x, N, by rw [set_self hx]; exact p.below hbd, hix, by omega, Fr.refl _ _⟩
    have HLOB : Hid (∀ k, own k ≠ 0 → B ≤ k) := fun k e => (p.lo k e).1
    generalize hml : es.length = ml at *
    clear p ht hb1 hbb hcs0 hin hi hpv hrow hcell he hx hix hbd hpk hel0 hown0
    go_enter Tryz.func8, Tryz.ntmps8
    go_upto_region 16 with (fail)
    generalize w.alloc (.cells #[.int .i64 5, .int .i64 a, .int .i64 b, .int .i64 c, .string s, .int .i64 x1, .int .i64 x2, .int .i64 x3, .int .i64 x4, .int .i64 x5, .slice ta ts.length tc] 43) = W1 at *
    clear b0 g0 g1
    apply wp_someW (fun w3 => ∃ own' ne' x' N', Rig w3 own' B Q psv nb ni ne' nl nt es (xs.set i x') (xs.set i x') ∧ ExIn x' N' ∧ ne' ≤ ne + 1 ∧ Fr (fun k => own k ≠ 0) W1.drew w3)
    case h =>
      go_region_held3 (fun w3 => w3.cell? ⟨w.heap.size, 0, none⟩ = some (.int .i64 5) ∧ w3.cell? ⟨w.heap.size, 1, none⟩ = some (.int .i64 a) ∧ w3.cell? ⟨w.heap.size, 2, none⟩ = some (.int .i64 b) ∧ w3.cell? ⟨w.heap.size, 3, none⟩ = some (.int .i64 c) ∧ w3.cell? ⟨w.heap.size, 4, none⟩ = some (.string s) ∧ w3.cell? ⟨w.heap.size, 5, none⟩ = some (.int .i64 x1) ∧ w3.cell? ⟨w.heap.size, 6, none⟩ = some (.int .i64 x2) ∧ w3.cell? ⟨w.heap.size, 7, none⟩ = some (.int .i64 x3) ∧ w3.cell? ⟨w.heap.size, 8, none⟩ = some (.int .i64 x4) ∧ w3.cell? ⟨w.heap.size, 9, none⟩ = some (.int .i64 x5) ∧ w3.cell? ⟨w.heap.size, 10, none⟩ = some (.slice ta ts.length tc) ∧ w3.cell? ⟨B, 0, none⟩ = some (.slice (some ⟨pg, 0, none⟩) ml pc) ∧ w3.cell? ⟨pg, i * 2, none⟩ = some (.pointer (some ⟨e.1, 0, none⟩)) ∧ w3.cell? ⟨pg, i * 2 + 1, none⟩ = some (.pointer (some ⟨e.2, 0, none⟩))) (first | exact HS0.out | exact HS3.out) (first
        | (go_at_call 16; refine HPK.out.mono ?_; rintro e' w' ⟨rfl, rfl⟩)
        | (go_at_call 15; refine HWK.out.mono ?_; rintro e' w3 ⟨rfl, hpost⟩; have HPOST := hide hpost; have HS3 := hide (HSS.out w3 hpost); clear hpost))
      all_goals exact ⟨w3, HPOST.out, rfl, rfl⟩
    rintro w3 hpost
    have HPOST := hide hpost
    clear hpost
    go_wp2_with fail
    go_ret
    obtain ⟨own', ne', x', N', h1, h2, h4, h5⟩ := HPOST.out
    exact ⟨rfl, own', ne', xs.set i x', h1, h4, HXS.out x' N' h2, (HBD.out.mono hB).trans (h5.below (by have := HBD.out.size; omega) HLOB.out)⟩

set_option maxRecDepth 100000 in
set_option maxHeartbeats 1600000 in
theorem step6 (own : Nat → Nat) (B Q : Nat) (Tq : Nat → Prop) (psv : Value) (nb ni ne nl nt : Nat) (es : List (Nat × Nat)) (xs : List Exs) (v : Value) (o : Stp) (w : World) (p : Rig w own B Q psv nb ni ne nl nt es xs xs) (hB : B ≤ w.heap.size) (hv : OpQ w Tq v o) (hTq : ∀ k, Tq k → k < w.heap.size) (hok : StpIn o) (hel : es.length ≤ 1300000000000) (hne : ne ≤ 1300000000000) (hi : ∀ x ∈ xs, ∃ N, ExIn x N) (hk : o.kind = 6) :
    Calls Tryz.prog 8 #[.pointer (some ⟨B, 0, none⟩), v] w fun r w' => r = .returned (.bool true) ∧ ∃ own' ne' xs', Rig w' own' B Q psv nb ni ne' nl nt es xs' xs' ∧ ne' ≤ ne + 1 ∧ (∀ x ∈ xs', ∃ N, ExIn x N) ∧ Below B w w' := by
  obtain ⟨hok, hin⟩ := hok
  obtain ⟨t, rfl, ht⟩ := hv
  obtain ⟨kind, a, b, c, s, cfg⟩ := o
  obtain ⟨x1, x2, x3, x4, x5, ts⟩ := cfg
  simp only at ht hk hin ⊢
  subst hk
  obtain ⟨ta, tc, rfl⟩ := ht.slice
  have hb1 : Below w.heap.size w (w.alloc (.cells #[.int .i64 6, .int .i64 a, .int .i64 b, .int .i64 c, .string s, .int .i64 x1, .int .i64 x2, .int .i64 x3, .int .i64 x4, .int .i64 x5, .slice ta ts.length tc] 43)) := (Below.refl _ _).alloc (Nat.le_refl _) _
  have HB1 := hide hb1
  have HO1 := hide (Blk.new w #[.int .i64 6, .int .i64 a, .int .i64 b, .int .i64 c, .string s, .int .i64 x1, .int .i64 x2, .int .i64 x3, .int .i64 x4, .int .i64 x5, .slice ta ts.length tc] 43)
  have HP := hide p
  have hBw : B < w.heap.size := (p.lo B (by rw [p.bk.2.1]; decide)).2
  obtain ⟨pa, pc, hpv⟩ := ownsRow_slice p.row
  have HBB : Hid (∃ cs, Blk w B cs 36 ∧ cs[0]? = some (.slice pa es.length pc)) := by
    obtain ⟨_, _, vb, vi, ve, vl, vt, hb, _⟩ := p.bk
    exact ⟨_, hb, by rw [hpv]; rfl⟩
  obtain ⟨cs, hbb, hcs0⟩ := HBB.out
  have b0 : w.cell? ⟨B, 0, none⟩ = some (.slice pa es.length pc) := (hbb.cell 0).trans hcs0
  have HIN := hide hin
  have HII := hide hi
  by_cases hel0 : es.length = 0
  · rw [hel0] at b0
    clear p ht hb1 hbb hcs0 hin hi hpv
    go_enter Tryz.func8, Tryz.ntmps8
    go_wp2_with fail
    go_ret
    exact ⟨rfl, own, ne, xs, HP.out.below HB1.out, by omega, HII.out, HB1.out.mono hB⟩
  · have hm0 : 0 < es.length := Nat.pos_of_ne_zero hel0
    obtain ⟨i, hpk⟩ : ∃ i : Nat, pk a (es.length : Int) = i := ⟨(pk a (es.length : Int)).toNat, by have := pk_lo a (es.length : Int) (by omega); omega⟩
    have hil : i < es.length := by have := pk_hi a (es.length : Int) (by omega); omega
    obtain ⟨e, he⟩ := get_of_lt (l := es) (k := i) hil
    obtain ⟨x, hx⟩ := get_of_lt (l := xs) (k := i) (by rw [p.lx]; exact hil)
    obtain ⟨N, hix⟩ := hi x (List.mem_of_getElem? hx)
    have HPK := hide (lawPick_any a (es.length : Int) ((w.alloc (.cells #[.int .i64 6, .int .i64 a, .int .i64 b, .int .i64 c, .string s, .int .i64 x1, .int .i64 x2, .int .i64 x3, .int .i64 x4, .int .i64 x5, .slice ta ts.length tc] 43)).drew) hin.1 (by omega) (by omega))
    rw [hpk] at HPK
    obtain ⟨pg, pcap, hpg, hpc1, -⟩ := ownsRow_some p.row hm0
    rw [hpv] at hpg
    simp only [Value.slice.injEq, true_and] at hpg
    obtain ⟨rfl, rfl⟩ := hpg
    have hrow := p.row
    rw [hpv] at hrow
    have hpgl := (ownsRow_lt hrow (k := pg) rfl).2
    have hcell : ∀ q u, q < 2 → ([Value.pointer (some ⟨e.1, 0, none⟩), Value.pointer (some ⟨e.2, 0, none⟩)] : List Value)[q]? = some u → w.cell? ⟨pg, i * 2 + q, none⟩ = some u := fun q u hq hu => by
      have hg : (prow es)[i * 2 + q]? = some u := by
        rw [prow, flatten_get (k := 2) (fun c hc => by
          obtain ⟨j, _, rfl⟩ := List.mem_map.1 hc
          rfl) i q hq, List.getElem?_map, he]
        exact hu
      have h1 := World.ownsRow.cells (g := pg) hrow (by rfl) (i * 2 + q) _ hg
      rw [Addr.add] at h1
      split at h1
      · rename_i h0; rw [h0]; exact h1
      · simpa using h1
    have g0 : w.cell? ⟨pg, i * 2, none⟩ = some (.pointer (some ⟨e.1, 0, none⟩)) := hcell 0 _ (by decide) rfl
    have g1 : w.cell? ⟨pg, i * 2 + 1, none⟩ = some (.pointer (some ⟨e.2, 0, none⟩)) := hcell 1 _ (by decide) rfl
    have hbd : Below w.heap.size w (w.alloc (.cells #[.int .i64 6, .int .i64 a, .int .i64 b, .int .i64 c, .string s, .int .i64 x1, .int .i64 x2, .int .i64 x3, .int .i64 x4, .int .i64 x5, .slice ta ts.length tc] 43)).drew := hb1.drew
    have HBD := hide hbd
    have HWK := hide (works6 own B Q (w.alloc (.cells #[.int .i64 6, .int .i64 a, .int .i64 b, .int .i64 c, .string s, .int .i64 x1, .int .i64 x2, .int .i64 x3, .int .i64 x4, .int .i64 x5, .slice ta ts.length tc] 43)).drew.heap.size psv nb ni ne nl nt es xs i e x N _ _ ((w.alloc (.cells #[.int .i64 6, .int .i64 a, .int .i64 b, .int .i64 c, .string s, .int .i64 x1, .int .i64 x2, .int .i64 x3, .int .i64 x4, .int .i64 x5, .slice ta ts.length tc] 43)).drew) (p.below hbd) (by have := hbd.size; omega) (show Op1 _ _ _ ⟨6, a, b, c, s, ⟨x1, x2, x3, x4, x5, ts⟩⟩ from ⟨_, rfl, (ht.same fun k e => hbd.block k (hTq k e)).tasks fun k e => by have := hTq k e; have := hbd.size; omega⟩) hok hin he hx hix hne rfl)
    have hii : (i : Int) < (es.length : Int) := by omega
    have hi0 : (0 : Int) ≤ (i : Int) := by omega
    have hmi : (0 : Int) < (es.length : Int) := by omega
    have HXS : Hid (∀ x' N', ExIn x' N' → ∀ y ∈ xs.set i x', ∃ N, ExIn y N) := fun x' N' h1 y hy => by
      rcases List.mem_or_eq_of_mem_set hy with hy | rfl
      · exact HII.out y hy
      · exact ⟨N', h1⟩
    have hown0 : own w.heap.size = 0 := own_new p (Nat.le_refl _)
    have HSS : Hid (∀ w3, (∃ own' ne' x' N', Rig w3 own' B Q psv nb ni ne' nl nt es (xs.set i x') (xs.set i x') ∧ ExIn x' N' ∧ ne' ≤ ne + 1 ∧ Fr (fun k => own k ≠ 0) (w.alloc (.cells #[.int .i64 6, .int .i64 a, .int .i64 b, .int .i64 c, .string s, .int .i64 x1, .int .i64 x2, .int .i64 x3, .int .i64 x4, .int .i64 x5, .slice ta ts.length tc] 43)).drew w3) → w3.cell? ⟨w.heap.size, 0, none⟩ = some (.int .i64 6) ∧ w3.cell? ⟨w.heap.size, 1, none⟩ = some (.int .i64 a) ∧ w3.cell? ⟨w.heap.size, 2, none⟩ = some (.int .i64 b) ∧ w3.cell? ⟨w.heap.size, 3, none⟩ = some (.int .i64 c) ∧ w3.cell? ⟨w.heap.size, 4, none⟩ = some (.string s) ∧ w3.cell? ⟨w.heap.size, 5, none⟩ = some (.int .i64 x1) ∧ w3.cell? ⟨w.heap.size, 6, none⟩ = some (.int .i64 x2) ∧ w3.cell? ⟨w.heap.size, 7, none⟩ = some (.int .i64 x3) ∧ w3.cell? ⟨w.heap.size, 8, none⟩ = some (.int .i64 x4) ∧ w3.cell? ⟨w.heap.size, 9, none⟩ = some (.int .i64 x5) ∧ w3.cell? ⟨w.heap.size, 10, none⟩ = some (.slice ta ts.length tc) ∧ w3.cell? ⟨B, 0, none⟩ = some (.slice (some ⟨pg, 0, none⟩) es.length pc) ∧ w3.cell? ⟨pg, i * 2, none⟩ = some (.pointer (some ⟨e.1, 0, none⟩)) ∧ w3.cell? ⟨pg, i * 2 + 1, none⟩ = some (.pointer (some ⟨e.2, 0, none⟩))) := fun w3 ⟨own', ne', x', N', h1, _, _, h5⟩ => by
      have hbo : Blk w3 w.heap.size #[.int .i64 6, .int .i64 a, .int .i64 b, .int .i64 c, .string s, .int .i64 x1, .int .i64 x2, .int .i64 x3, .int .i64 x4, .int .i64 x5, .slice ta ts.length tc] 43 := (h5.block w.heap.size (by simp) (fun e => e hown0)).trans (Blk.new w #[.int .i64 6, .int .i64 a, .int .i64 b, .int .i64 c, .string s, .int .i64 x1, .int .i64 x2, .int .i64 x3, .int .i64 x4, .int .i64 x5, .slice ta ts.length tc] 43).drew
      have hrow3 := h1.row
      rw [hpv] at hrow3
      have hcell3 : ∀ q u, q < 2 → ([Value.pointer (some ⟨e.1, 0, none⟩), Value.pointer (some ⟨e.2, 0, none⟩)] : List Value)[q]? = some u → w3.cell? ⟨pg, i * 2 + q, none⟩ = some u := fun q u hq hu => by
        have hg : (prow es)[i * 2 + q]? = some u := by
          rw [prow, flatten_get (k := 2) (fun c hc => by
            obtain ⟨j, _, rfl⟩ := List.mem_map.1 hc
            rfl) i q hq, List.getElem?_map, he]
          exact hu
        have h1 := World.ownsRow.cells (g := pg) hrow3 (by rfl) (i * 2 + q) _ hg
        rw [Addr.add] at h1
        split at h1
        · rename_i h0; rw [h0]; exact h1
        · simpa using h1
      obtain ⟨_, _, vb, vi, ve, vl, vt, hb3, _⟩ := h1.bk
      rw [hpv] at hb3
      exact ⟨hbo.cell 0, hbo.cell 1, hbo.cell 2, hbo.cell 3, hbo.cell 4, hbo.cell 5, hbo.cell 6, hbo.cell 7, hbo.cell 8, hbo.cell 9, hbo.cell 10, hb3.cell 0, hcell3 0 _ (by decide) rfl, hcell3 1 _ (by decide) rfl⟩
    have HS0 : Hid ((w.alloc (.cells #[.int .i64 6, .int .i64 a, .int .i64 b, .int .i64 c, .string s, .int .i64 x1, .int .i64 x2, .int .i64 x3, .int .i64 x4, .int .i64 x5, .slice ta ts.length tc] 43)).drew.cell? ⟨w.heap.size, 0, none⟩ = some (.int .i64 6) ∧ (w.alloc (.cells #[.int .i64 6, .int .i64 a, .int .i64 b, .int .i64 c, .string s, .int .i64 x1, .int .i64 x2, .int .i64 x3, .int .i64 x4, .int .i64 x5, .slice ta ts.length tc] 43)).drew.cell? ⟨w.heap.size, 1, none⟩ = some (.int .i64 a) ∧ (w.alloc (.cells #[.int .i64 6, .int .i64 a, .int .i64 b, .int .i64 c, .string s, .int .i64 x1, .int .i64 x2, .int .i64 x3, .int .i64 x4, .int .i64 x5, .slice ta ts.length tc] 43)).drew.cell? ⟨w.heap.size, 2, none⟩ = some (.int .i64 b) ∧ (w.alloc (.cells #[.int .i64 6, .int .i64 a, .int .i64 b, .int .i64 c, .string s, .int .i64 x1, .int .i64 x2, .int .i64 x3, .int .i64 x4, .int .i64 x5, .slice ta ts.length tc] 43)).drew.cell? ⟨w.heap.size, 3, none⟩ = some (.int .i64 c) ∧ (w.alloc (.cells #[.int .i64 6, .int .i64 a, .int .i64 b, .int .i64 c, .string s, .int .i64 x1, .int .i64 x2, .int .i64 x3, .int .i64 x4, .int .i64 x5, .slice ta ts.length tc] 43)).drew.cell? ⟨w.heap.size, 4, none⟩ = some (.string s) ∧ (w.alloc (.cells #[.int .i64 6, .int .i64 a, .int .i64 b, .int .i64 c, .string s, .int .i64 x1, .int .i64 x2, .int .i64 x3, .int .i64 x4, .int .i64 x5, .slice ta ts.length tc] 43)).drew.cell? ⟨w.heap.size, 5, none⟩ = some (.int .i64 x1) ∧ (w.alloc (.cells #[.int .i64 6, .int .i64 a, .int .i64 b, .int .i64 c, .string s, .int .i64 x1, .int .i64 x2, .int .i64 x3, .int .i64 x4, .int .i64 x5, .slice ta ts.length tc] 43)).drew.cell? ⟨w.heap.size, 6, none⟩ = some (.int .i64 x2) ∧ (w.alloc (.cells #[.int .i64 6, .int .i64 a, .int .i64 b, .int .i64 c, .string s, .int .i64 x1, .int .i64 x2, .int .i64 x3, .int .i64 x4, .int .i64 x5, .slice ta ts.length tc] 43)).drew.cell? ⟨w.heap.size, 7, none⟩ = some (.int .i64 x3) ∧ (w.alloc (.cells #[.int .i64 6, .int .i64 a, .int .i64 b, .int .i64 c, .string s, .int .i64 x1, .int .i64 x2, .int .i64 x3, .int .i64 x4, .int .i64 x5, .slice ta ts.length tc] 43)).drew.cell? ⟨w.heap.size, 8, none⟩ = some (.int .i64 x4) ∧ (w.alloc (.cells #[.int .i64 6, .int .i64 a, .int .i64 b, .int .i64 c, .string s, .int .i64 x1, .int .i64 x2, .int .i64 x3, .int .i64 x4, .int .i64 x5, .slice ta ts.length tc] 43)).drew.cell? ⟨w.heap.size, 9, none⟩ = some (.int .i64 x5) ∧ (w.alloc (.cells #[.int .i64 6, .int .i64 a, .int .i64 b, .int .i64 c, .string s, .int .i64 x1, .int .i64 x2, .int .i64 x3, .int .i64 x4, .int .i64 x5, .slice ta ts.length tc] 43)).drew.cell? ⟨w.heap.size, 10, none⟩ = some (.slice ta ts.length tc) ∧ (w.alloc (.cells #[.int .i64 6, .int .i64 a, .int .i64 b, .int .i64 c, .string s, .int .i64 x1, .int .i64 x2, .int .i64 x3, .int .i64 x4, .int .i64 x5, .slice ta ts.length tc] 43)).drew.cell? ⟨B, 0, none⟩ = some (.slice (some ⟨pg, 0, none⟩) es.length pc) ∧ (w.alloc (.cells #[.int .i64 6, .int .i64 a, .int .i64 b, .int .i64 c, .string s, .int .i64 x1, .int .i64 x2, .int .i64 x3, .int .i64 x4, .int .i64 x5, .slice ta ts.length tc] 43)).drew.cell? ⟨pg, i * 2, none⟩ = some (.pointer (some ⟨e.1, 0, none⟩)) ∧ (w.alloc (.cells #[.int .i64 6, .int .i64 a, .int .i64 b, .int .i64 c, .string s, .int .i64 x1, .int .i64 x2, .int .i64 x3, .int .i64 x4, .int .i64 x5, .slice ta ts.length tc] 43)).drew.cell? ⟨pg, i * 2 + 1, none⟩ = some (.pointer (some ⟨e.2, 0, none⟩))) := HSS.out _ ⟨own, ne, x, N, by rw [set_self hx]; exact p.below hbd, hix, by omega, Fr.refl _ _⟩
    have HLOB : Hid (∀ k, own k ≠ 0 → B ≤ k) := fun k e => (p.lo k e).1
    generalize hml : es.length = ml at *
    clear p ht hb1 hbb hcs0 hin hi hpv hrow hcell he hx hix hbd hpk hel0 hown0
    go_enter Tryz.func8, Tryz.ntmps8
    go_upto_region 16 with (fail)
    generalize w.alloc (.cells #[.int .i64 6, .int .i64 a, .int .i64 b, .int .i64 c, .string s, .int .i64 x1, .int .i64 x2, .int .i64 x3, .int .i64 x4, .int .i64 x5, .slice ta ts.length tc] 43) = W1 at *
    clear b0 g0 g1
    apply wp_someW (fun w3 => ∃ own' ne' x' N', Rig w3 own' B Q psv nb ni ne' nl nt es (xs.set i x') (xs.set i x') ∧ ExIn x' N' ∧ ne' ≤ ne + 1 ∧ Fr (fun k => own k ≠ 0) W1.drew w3)
    case h =>
      go_region_held3 (fun w3 => w3.cell? ⟨w.heap.size, 0, none⟩ = some (.int .i64 6) ∧ w3.cell? ⟨w.heap.size, 1, none⟩ = some (.int .i64 a) ∧ w3.cell? ⟨w.heap.size, 2, none⟩ = some (.int .i64 b) ∧ w3.cell? ⟨w.heap.size, 3, none⟩ = some (.int .i64 c) ∧ w3.cell? ⟨w.heap.size, 4, none⟩ = some (.string s) ∧ w3.cell? ⟨w.heap.size, 5, none⟩ = some (.int .i64 x1) ∧ w3.cell? ⟨w.heap.size, 6, none⟩ = some (.int .i64 x2) ∧ w3.cell? ⟨w.heap.size, 7, none⟩ = some (.int .i64 x3) ∧ w3.cell? ⟨w.heap.size, 8, none⟩ = some (.int .i64 x4) ∧ w3.cell? ⟨w.heap.size, 9, none⟩ = some (.int .i64 x5) ∧ w3.cell? ⟨w.heap.size, 10, none⟩ = some (.slice ta ts.length tc) ∧ w3.cell? ⟨B, 0, none⟩ = some (.slice (some ⟨pg, 0, none⟩) ml pc) ∧ w3.cell? ⟨pg, i * 2, none⟩ = some (.pointer (some ⟨e.1, 0, none⟩)) ∧ w3.cell? ⟨pg, i * 2 + 1, none⟩ = some (.pointer (some ⟨e.2, 0, none⟩))) (first | exact HS0.out | exact HS3.out) (first
        | (go_at_call 16; refine HPK.out.mono ?_; rintro e' w' ⟨rfl, rfl⟩)
        | (go_at_call 15; refine HWK.out.mono ?_; rintro e' w3 ⟨rfl, hpost⟩; have HPOST := hide hpost; have HS3 := hide (HSS.out w3 hpost); clear hpost))
      all_goals exact ⟨w3, HPOST.out, rfl, rfl⟩
    rintro w3 hpost
    have HPOST := hide hpost
    clear hpost
    go_wp2_with fail
    go_ret
    obtain ⟨own', ne', x', N', h1, h2, h4, h5⟩ := HPOST.out
    exact ⟨rfl, own', ne', xs.set i x', h1, h4, HXS.out x' N' h2, (HBD.out.mono hB).trans (h5.below (by have := HBD.out.size; omega) HLOB.out)⟩

set_option maxRecDepth 100000 in
set_option maxHeartbeats 1600000 in
theorem step7 (own : Nat → Nat) (B Q : Nat) (Tq : Nat → Prop) (psv : Value) (nb ni ne nl nt : Nat) (es : List (Nat × Nat)) (xs : List Exs) (v : Value) (o : Stp) (w : World) (p : Rig w own B Q psv nb ni ne nl nt es xs xs) (hB : B ≤ w.heap.size) (hv : OpQ w Tq v o) (hTq : ∀ k, Tq k → k < w.heap.size) (hok : StpIn o) (hel : es.length ≤ 1300000000000) (_hne : ne ≤ 1300000000000) (hi : ∀ x ∈ xs, ∃ N, ExIn x N) (hk : o.kind = 7) :
    Calls Tryz.prog 8 #[.pointer (some ⟨B, 0, none⟩), v] w fun r w' => r = .returned (.bool true) ∧ ∃ own' ne' xs', Rig w' own' B Q psv nb ni ne' nl nt es xs' xs' ∧ ne' ≤ ne + 1 ∧ (∀ x ∈ xs', ∃ N, ExIn x N) ∧ Below B w w' := by
  obtain ⟨hok, hin⟩ := hok
  obtain ⟨t, rfl, ht⟩ := hv
  obtain ⟨kind, a, b, c, s, cfg⟩ := o
  obtain ⟨x1, x2, x3, x4, x5, ts⟩ := cfg
  simp only at ht hk hin ⊢
  subst hk
  obtain ⟨ta, tc, rfl⟩ := ht.slice
  have hb1 : Below w.heap.size w (w.alloc (.cells #[.int .i64 7, .int .i64 a, .int .i64 b, .int .i64 c, .string s, .int .i64 x1, .int .i64 x2, .int .i64 x3, .int .i64 x4, .int .i64 x5, .slice ta ts.length tc] 43)) := (Below.refl _ _).alloc (Nat.le_refl _) _
  have HB1 := hide hb1
  have HO1 := hide (Blk.new w #[.int .i64 7, .int .i64 a, .int .i64 b, .int .i64 c, .string s, .int .i64 x1, .int .i64 x2, .int .i64 x3, .int .i64 x4, .int .i64 x5, .slice ta ts.length tc] 43)
  have HP := hide p
  have hBw : B < w.heap.size := (p.lo B (by rw [p.bk.2.1]; decide)).2
  obtain ⟨pa, pc, hpv⟩ := ownsRow_slice p.row
  have HBB : Hid (∃ cs, Blk w B cs 36 ∧ cs[0]? = some (.slice pa es.length pc)) := by
    obtain ⟨_, _, vb, vi, ve, vl, vt, hb, _⟩ := p.bk
    exact ⟨_, hb, by rw [hpv]; rfl⟩
  obtain ⟨cs, hbb, hcs0⟩ := HBB.out
  have b0 : w.cell? ⟨B, 0, none⟩ = some (.slice pa es.length pc) := (hbb.cell 0).trans hcs0
  have HIN := hide hin
  have HII := hide hi
  by_cases hel0 : es.length = 0
  · rw [hel0] at b0
    clear p ht hb1 hbb hcs0 hin hi hpv
    go_enter Tryz.func8, Tryz.ntmps8
    go_wp2_with fail
    go_ret
    exact ⟨rfl, own, ne, xs, HP.out.below HB1.out, by omega, HII.out, HB1.out.mono hB⟩
  · have hm0 : 0 < es.length := Nat.pos_of_ne_zero hel0
    obtain ⟨i, hpk⟩ : ∃ i : Nat, pk a (es.length : Int) = i := ⟨(pk a (es.length : Int)).toNat, by have := pk_lo a (es.length : Int) (by omega); omega⟩
    have hil : i < es.length := by have := pk_hi a (es.length : Int) (by omega); omega
    obtain ⟨e, he⟩ := get_of_lt (l := es) (k := i) hil
    obtain ⟨x, hx⟩ := get_of_lt (l := xs) (k := i) (by rw [p.lx]; exact hil)
    obtain ⟨N, hix⟩ := hi x (List.mem_of_getElem? hx)
    have HPK := hide (lawPick_any a (es.length : Int) ((w.alloc (.cells #[.int .i64 7, .int .i64 a, .int .i64 b, .int .i64 c, .string s, .int .i64 x1, .int .i64 x2, .int .i64 x3, .int .i64 x4, .int .i64 x5, .slice ta ts.length tc] 43)).drew) hin.1 (by omega) (by omega))
    rw [hpk] at HPK
    obtain ⟨pg, pcap, hpg, hpc1, -⟩ := ownsRow_some p.row hm0
    rw [hpv] at hpg
    simp only [Value.slice.injEq, true_and] at hpg
    obtain ⟨rfl, rfl⟩ := hpg
    have hrow := p.row
    rw [hpv] at hrow
    have hpgl := (ownsRow_lt hrow (k := pg) rfl).2
    have hcell : ∀ q u, q < 2 → ([Value.pointer (some ⟨e.1, 0, none⟩), Value.pointer (some ⟨e.2, 0, none⟩)] : List Value)[q]? = some u → w.cell? ⟨pg, i * 2 + q, none⟩ = some u := fun q u hq hu => by
      have hg : (prow es)[i * 2 + q]? = some u := by
        rw [prow, flatten_get (k := 2) (fun c hc => by
          obtain ⟨j, _, rfl⟩ := List.mem_map.1 hc
          rfl) i q hq, List.getElem?_map, he]
        exact hu
      have h1 := World.ownsRow.cells (g := pg) hrow (by rfl) (i * 2 + q) _ hg
      rw [Addr.add] at h1
      split at h1
      · rename_i h0; rw [h0]; exact h1
      · simpa using h1
    have g0 : w.cell? ⟨pg, i * 2, none⟩ = some (.pointer (some ⟨e.1, 0, none⟩)) := hcell 0 _ (by decide) rfl
    have g1 : w.cell? ⟨pg, i * 2 + 1, none⟩ = some (.pointer (some ⟨e.2, 0, none⟩)) := hcell 1 _ (by decide) rfl
    have hbd : Below w.heap.size w (w.alloc (.cells #[.int .i64 7, .int .i64 a, .int .i64 b, .int .i64 c, .string s, .int .i64 x1, .int .i64 x2, .int .i64 x3, .int .i64 x4, .int .i64 x5, .slice ta ts.length tc] 43)).drew := hb1.drew
    have HBD := hide hbd
    have HWK := hide (works7 own B Q (w.alloc (.cells #[.int .i64 7, .int .i64 a, .int .i64 b, .int .i64 c, .string s, .int .i64 x1, .int .i64 x2, .int .i64 x3, .int .i64 x4, .int .i64 x5, .slice ta ts.length tc] 43)).drew.heap.size psv nb ni ne nl nt es xs i e x N _ _ ((w.alloc (.cells #[.int .i64 7, .int .i64 a, .int .i64 b, .int .i64 c, .string s, .int .i64 x1, .int .i64 x2, .int .i64 x3, .int .i64 x4, .int .i64 x5, .slice ta ts.length tc] 43)).drew) (p.below hbd) (by have := hbd.size; omega) (show Op1 _ _ _ ⟨7, a, b, c, s, ⟨x1, x2, x3, x4, x5, ts⟩⟩ from ⟨_, rfl, (ht.same fun k e => hbd.block k (hTq k e)).tasks fun k e => by have := hTq k e; have := hbd.size; omega⟩) hok hin he hx hix rfl)
    have hii : (i : Int) < (es.length : Int) := by omega
    have hi0 : (0 : Int) ≤ (i : Int) := by omega
    have hmi : (0 : Int) < (es.length : Int) := by omega
    have HXS : Hid (∀ x' N', ExIn x' N' → ∀ y ∈ xs.set i x', ∃ N, ExIn y N) := fun x' N' h1 y hy => by
      rcases List.mem_or_eq_of_mem_set hy with hy | rfl
      · exact HII.out y hy
      · exact ⟨N', h1⟩
    have hown0 : own w.heap.size = 0 := own_new p (Nat.le_refl _)
    have HSS : Hid (∀ w3, (∃ own' ne' x' N', Rig w3 own' B Q psv nb ni ne' nl nt es (xs.set i x') (xs.set i x') ∧ ExIn x' N' ∧ ne' ≤ ne + 1 ∧ Fr (fun k => own k ≠ 0) (w.alloc (.cells #[.int .i64 7, .int .i64 a, .int .i64 b, .int .i64 c, .string s, .int .i64 x1, .int .i64 x2, .int .i64 x3, .int .i64 x4, .int .i64 x5, .slice ta ts.length tc] 43)).drew w3) → w3.cell? ⟨w.heap.size, 0, none⟩ = some (.int .i64 7) ∧ w3.cell? ⟨w.heap.size, 1, none⟩ = some (.int .i64 a) ∧ w3.cell? ⟨w.heap.size, 2, none⟩ = some (.int .i64 b) ∧ w3.cell? ⟨w.heap.size, 3, none⟩ = some (.int .i64 c) ∧ w3.cell? ⟨w.heap.size, 4, none⟩ = some (.string s) ∧ w3.cell? ⟨w.heap.size, 5, none⟩ = some (.int .i64 x1) ∧ w3.cell? ⟨w.heap.size, 6, none⟩ = some (.int .i64 x2) ∧ w3.cell? ⟨w.heap.size, 7, none⟩ = some (.int .i64 x3) ∧ w3.cell? ⟨w.heap.size, 8, none⟩ = some (.int .i64 x4) ∧ w3.cell? ⟨w.heap.size, 9, none⟩ = some (.int .i64 x5) ∧ w3.cell? ⟨w.heap.size, 10, none⟩ = some (.slice ta ts.length tc) ∧ w3.cell? ⟨B, 0, none⟩ = some (.slice (some ⟨pg, 0, none⟩) es.length pc) ∧ w3.cell? ⟨pg, i * 2, none⟩ = some (.pointer (some ⟨e.1, 0, none⟩)) ∧ w3.cell? ⟨pg, i * 2 + 1, none⟩ = some (.pointer (some ⟨e.2, 0, none⟩))) := fun w3 ⟨own', ne', x', N', h1, _, _, h5⟩ => by
      have hbo : Blk w3 w.heap.size #[.int .i64 7, .int .i64 a, .int .i64 b, .int .i64 c, .string s, .int .i64 x1, .int .i64 x2, .int .i64 x3, .int .i64 x4, .int .i64 x5, .slice ta ts.length tc] 43 := (h5.block w.heap.size (by simp) (fun e => e hown0)).trans (Blk.new w #[.int .i64 7, .int .i64 a, .int .i64 b, .int .i64 c, .string s, .int .i64 x1, .int .i64 x2, .int .i64 x3, .int .i64 x4, .int .i64 x5, .slice ta ts.length tc] 43).drew
      have hrow3 := h1.row
      rw [hpv] at hrow3
      have hcell3 : ∀ q u, q < 2 → ([Value.pointer (some ⟨e.1, 0, none⟩), Value.pointer (some ⟨e.2, 0, none⟩)] : List Value)[q]? = some u → w3.cell? ⟨pg, i * 2 + q, none⟩ = some u := fun q u hq hu => by
        have hg : (prow es)[i * 2 + q]? = some u := by
          rw [prow, flatten_get (k := 2) (fun c hc => by
            obtain ⟨j, _, rfl⟩ := List.mem_map.1 hc
            rfl) i q hq, List.getElem?_map, he]
          exact hu
        have h1 := World.ownsRow.cells (g := pg) hrow3 (by rfl) (i * 2 + q) _ hg
        rw [Addr.add] at h1
        split at h1
        · rename_i h0; rw [h0]; exact h1
        · simpa using h1
      obtain ⟨_, _, vb, vi, ve, vl, vt, hb3, _⟩ := h1.bk
      rw [hpv] at hb3
      exact ⟨hbo.cell 0, hbo.cell 1, hbo.cell 2, hbo.cell 3, hbo.cell 4, hbo.cell 5, hbo.cell 6, hbo.cell 7, hbo.cell 8, hbo.cell 9, hbo.cell 10, hb3.cell 0, hcell3 0 _ (by decide) rfl, hcell3 1 _ (by decide) rfl⟩
    have HS0 : Hid ((w.alloc (.cells #[.int .i64 7, .int .i64 a, .int .i64 b, .int .i64 c, .string s, .int .i64 x1, .int .i64 x2, .int .i64 x3, .int .i64 x4, .int .i64 x5, .slice ta ts.length tc] 43)).drew.cell? ⟨w.heap.size, 0, none⟩ = some (.int .i64 7) ∧ (w.alloc (.cells #[.int .i64 7, .int .i64 a, .int .i64 b, .int .i64 c, .string s, .int .i64 x1, .int .i64 x2, .int .i64 x3, .int .i64 x4, .int .i64 x5, .slice ta ts.length tc] 43)).drew.cell? ⟨w.heap.size, 1, none⟩ = some (.int .i64 a) ∧ (w.alloc (.cells #[.int .i64 7, .int .i64 a, .int .i64 b, .int .i64 c, .string s, .int .i64 x1, .int .i64 x2, .int .i64 x3, .int .i64 x4, .int .i64 x5, .slice ta ts.length tc] 43)).drew.cell? ⟨w.heap.size, 2, none⟩ = some (.int .i64 b) ∧ (w.alloc (.cells #[.int .i64 7, .int .i64 a, .int .i64 b, .int .i64 c, .string s, .int .i64 x1, .int .i64 x2, .int .i64 x3, .int .i64 x4, .int .i64 x5, .slice ta ts.length tc] 43)).drew.cell? ⟨w.heap.size, 3, none⟩ = some (.int .i64 c) ∧ (w.alloc (.cells #[.int .i64 7, .int .i64 a, .int .i64 b, .int .i64 c, .string s, .int .i64 x1, .int .i64 x2, .int .i64 x3, .int .i64 x4, .int .i64 x5, .slice ta ts.length tc] 43)).drew.cell? ⟨w.heap.size, 4, none⟩ = some (.string s) ∧ (w.alloc (.cells #[.int .i64 7, .int .i64 a, .int .i64 b, .int .i64 c, .string s, .int .i64 x1, .int .i64 x2, .int .i64 x3, .int .i64 x4, .int .i64 x5, .slice ta ts.length tc] 43)).drew.cell? ⟨w.heap.size, 5, none⟩ = some (.int .i64 x1) ∧ (w.alloc (.cells #[.int .i64 7, .int .i64 a, .int .i64 b, .int .i64 c, .string s, .int .i64 x1, .int .i64 x2, .int .i64 x3, .int .i64 x4, .int .i64 x5, .slice ta ts.length tc] 43)).drew.cell? ⟨w.heap.size, 6, none⟩ = some (.int .i64 x2) ∧ (w.alloc (.cells #[.int .i64 7, .int .i64 a, .int .i64 b, .int .i64 c, .string s, .int .i64 x1, .int .i64 x2, .int .i64 x3, .int .i64 x4, .int .i64 x5, .slice ta ts.length tc] 43)).drew.cell? ⟨w.heap.size, 7, none⟩ = some (.int .i64 x3) ∧ (w.alloc (.cells #[.int .i64 7, .int .i64 a, .int .i64 b, .int .i64 c, .string s, .int .i64 x1, .int .i64 x2, .int .i64 x3, .int .i64 x4, .int .i64 x5, .slice ta ts.length tc] 43)).drew.cell? ⟨w.heap.size, 8, none⟩ = some (.int .i64 x4) ∧ (w.alloc (.cells #[.int .i64 7, .int .i64 a, .int .i64 b, .int .i64 c, .string s, .int .i64 x1, .int .i64 x2, .int .i64 x3, .int .i64 x4, .int .i64 x5, .slice ta ts.length tc] 43)).drew.cell? ⟨w.heap.size, 9, none⟩ = some (.int .i64 x5) ∧ (w.alloc (.cells #[.int .i64 7, .int .i64 a, .int .i64 b, .int .i64 c, .string s, .int .i64 x1, .int .i64 x2, .int .i64 x3, .int .i64 x4, .int .i64 x5, .slice ta ts.length tc] 43)).drew.cell? ⟨w.heap.size, 10, none⟩ = some (.slice ta ts.length tc) ∧ (w.alloc (.cells #[.int .i64 7, .int .i64 a, .int .i64 b, .int .i64 c, .string s, .int .i64 x1, .int .i64 x2, .int .i64 x3, .int .i64 x4, .int .i64 x5, .slice ta ts.length tc] 43)).drew.cell? ⟨B, 0, none⟩ = some (.slice (some ⟨pg, 0, none⟩) es.length pc) ∧ (w.alloc (.cells #[.int .i64 7, .int .i64 a, .int .i64 b, .int .i64 c, .string s, .int .i64 x1, .int .i64 x2, .int .i64 x3, .int .i64 x4, .int .i64 x5, .slice ta ts.length tc] 43)).drew.cell? ⟨pg, i * 2, none⟩ = some (.pointer (some ⟨e.1, 0, none⟩)) ∧ (w.alloc (.cells #[.int .i64 7, .int .i64 a, .int .i64 b, .int .i64 c, .string s, .int .i64 x1, .int .i64 x2, .int .i64 x3, .int .i64 x4, .int .i64 x5, .slice ta ts.length tc] 43)).drew.cell? ⟨pg, i * 2 + 1, none⟩ = some (.pointer (some ⟨e.2, 0, none⟩))) := HSS.out _ ⟨own, ne, x, N, by rw [set_self hx]; exact p.below hbd, hix, by omega, Fr.refl _ _⟩
    have HLOB : Hid (∀ k, own k ≠ 0 → B ≤ k) := fun k e => (p.lo k e).1
    generalize hml : es.length = ml at *
    clear p ht hb1 hbb hcs0 hin hi hpv hrow hcell he hx hix hbd hpk hel0 hown0
    go_enter Tryz.func8, Tryz.ntmps8
    go_upto_region 16 with (fail)
    generalize w.alloc (.cells #[.int .i64 7, .int .i64 a, .int .i64 b, .int .i64 c, .string s, .int .i64 x1, .int .i64 x2, .int .i64 x3, .int .i64 x4, .int .i64 x5, .slice ta ts.length tc] 43) = W1 at *
    clear b0 g0 g1
    apply wp_someW (fun w3 => ∃ own' ne' x' N', Rig w3 own' B Q psv nb ni ne' nl nt es (xs.set i x') (xs.set i x') ∧ ExIn x' N' ∧ ne' ≤ ne + 1 ∧ Fr (fun k => own k ≠ 0) W1.drew w3)
    case h =>
      go_region_held3 (fun w3 => w3.cell? ⟨w.heap.size, 0, none⟩ = some (.int .i64 7) ∧ w3.cell? ⟨w.heap.size, 1, none⟩ = some (.int .i64 a) ∧ w3.cell? ⟨w.heap.size, 2, none⟩ = some (.int .i64 b) ∧ w3.cell? ⟨w.heap.size, 3, none⟩ = some (.int .i64 c) ∧ w3.cell? ⟨w.heap.size, 4, none⟩ = some (.string s) ∧ w3.cell? ⟨w.heap.size, 5, none⟩ = some (.int .i64 x1) ∧ w3.cell? ⟨w.heap.size, 6, none⟩ = some (.int .i64 x2) ∧ w3.cell? ⟨w.heap.size, 7, none⟩ = some (.int .i64 x3) ∧ w3.cell? ⟨w.heap.size, 8, none⟩ = some (.int .i64 x4) ∧ w3.cell? ⟨w.heap.size, 9, none⟩ = some (.int .i64 x5) ∧ w3.cell? ⟨w.heap.size, 10, none⟩ = some (.slice ta ts.length tc) ∧ w3.cell? ⟨B, 0, none⟩ = some (.slice (some ⟨pg, 0, none⟩) ml pc) ∧ w3.cell? ⟨pg, i * 2, none⟩ = some (.pointer (some ⟨e.1, 0, none⟩)) ∧ w3.cell? ⟨pg, i * 2 + 1, none⟩ = some (.pointer (some ⟨e.2, 0, none⟩))) (first | exact HS0.out | exact HS3.out) (first
        | (go_at_call 16; refine HPK.out.mono ?_; rintro e' w' ⟨rfl, rfl⟩)
        | (go_at_call 15; refine HWK.out.mono ?_; rintro e' w3 ⟨rfl, hpost⟩; have HPOST := hide hpost; have HS3 := hide (HSS.out w3 hpost); clear hpost))
      all_goals exact ⟨w3, HPOST.out, rfl, rfl⟩
    rintro w3 hpost
    have HPOST := hide hpost
    clear hpost
    go_wp2_with fail
    go_ret
    obtain ⟨own', ne', x', N', h1, h2, h4, h5⟩ := HPOST.out
    exact ⟨rfl, own', ne', xs.set i x', h1, h4, HXS.out x' N' h2, (HBD.out.mono hB).trans (h5.below (by have := HBD.out.size; omega) HLOB.out)⟩

set_option maxRecDepth 100000 in
set_option maxHeartbeats 1600000 in
theorem step8 (own : Nat → Nat) (B Q : Nat) (Tq : Nat → Prop) (psv : Value) (nb ni ne nl nt : Nat) (es : List (Nat × Nat)) (xs : List Exs) (v : Value) (o : Stp) (w : World) (p : Rig w own B Q psv nb ni ne nl nt es xs xs) (hB : B ≤ w.heap.size) (hv : OpQ w Tq v o) (hTq : ∀ k, Tq k → k < w.heap.size) (hok : StpIn o) (hel : es.length ≤ 1300000000000) (_hne : ne ≤ 1300000000000) (hi : ∀ x ∈ xs, ∃ N, ExIn x N) (hk : o.kind = 8) :
    Calls Tryz.prog 8 #[.pointer (some ⟨B, 0, none⟩), v] w fun r w' => r = .returned (.bool true) ∧ ∃ own' ne' xs', Rig w' own' B Q psv nb ni ne' nl nt es xs' xs' ∧ ne' ≤ ne + 1 ∧ (∀ x ∈ xs', ∃ N, ExIn x N) ∧ Below B w w' := by
  obtain ⟨hok, hin⟩ := hok
  obtain ⟨t, rfl, ht⟩ := hv
  obtain ⟨kind, a, b, c, s, cfg⟩ := o
  obtain ⟨x1, x2, x3, x4, x5, ts⟩ := cfg
  simp only at ht hk hin ⊢
  subst hk
  obtain ⟨ta, tc, rfl⟩ := ht.slice
  have hb1 : Below w.heap.size w (w.alloc (.cells #[.int .i64 8, .int .i64 a, .int .i64 b, .int .i64 c, .string s, .int .i64 x1, .int .i64 x2, .int .i64 x3, .int .i64 x4, .int .i64 x5, .slice ta ts.length tc] 43)) := (Below.refl _ _).alloc (Nat.le_refl _) _
  have HB1 := hide hb1
  have HO1 := hide (Blk.new w #[.int .i64 8, .int .i64 a, .int .i64 b, .int .i64 c, .string s, .int .i64 x1, .int .i64 x2, .int .i64 x3, .int .i64 x4, .int .i64 x5, .slice ta ts.length tc] 43)
  have HP := hide p
  have hBw : B < w.heap.size := (p.lo B (by rw [p.bk.2.1]; decide)).2
  obtain ⟨pa, pc, hpv⟩ := ownsRow_slice p.row
  have HBB : Hid (∃ cs, Blk w B cs 36 ∧ cs[0]? = some (.slice pa es.length pc)) := by
    obtain ⟨_, _, vb, vi, ve, vl, vt, hb, _⟩ := p.bk
    exact ⟨_, hb, by rw [hpv]; rfl⟩
  obtain ⟨cs, hbb, hcs0⟩ := HBB.out
  have b0 : w.cell? ⟨B, 0, none⟩ = some (.slice pa es.length pc) := (hbb.cell 0).trans hcs0
  have HIN := hide hin
  have HII := hide hi
  by_cases hel0 : es.length = 0
  · rw [hel0] at b0
    clear p ht hb1 hbb hcs0 hin hi hpv
    go_enter Tryz.func8, Tryz.ntmps8
    go_wp2_with fail
    go_ret
    exact ⟨rfl, own, ne, xs, HP.out.below HB1.out, by omega, HII.out, HB1.out.mono hB⟩
  · have hm0 : 0 < es.length := Nat.pos_of_ne_zero hel0
    obtain ⟨i, hpk⟩ : ∃ i : Nat, pk a (es.length : Int) = i := ⟨(pk a (es.length : Int)).toNat, by have := pk_lo a (es.length : Int) (by omega); omega⟩
    have hil : i < es.length := by have := pk_hi a (es.length : Int) (by omega); omega
    obtain ⟨e, he⟩ := get_of_lt (l := es) (k := i) hil
    obtain ⟨x, hx⟩ := get_of_lt (l := xs) (k := i) (by rw [p.lx]; exact hil)
    obtain ⟨N, hix⟩ := hi x (List.mem_of_getElem? hx)
    have HPK := hide (lawPick_any a (es.length : Int) ((w.alloc (.cells #[.int .i64 8, .int .i64 a, .int .i64 b, .int .i64 c, .string s, .int .i64 x1, .int .i64 x2, .int .i64 x3, .int .i64 x4, .int .i64 x5, .slice ta ts.length tc] 43)).drew) hin.1 (by omega) (by omega))
    rw [hpk] at HPK
    obtain ⟨pg, pcap, hpg, hpc1, -⟩ := ownsRow_some p.row hm0
    rw [hpv] at hpg
    simp only [Value.slice.injEq, true_and] at hpg
    obtain ⟨rfl, rfl⟩ := hpg
    have hrow := p.row
    rw [hpv] at hrow
    have hpgl := (ownsRow_lt hrow (k := pg) rfl).2
    have hcell : ∀ q u, q < 2 → ([Value.pointer (some ⟨e.1, 0, none⟩), Value.pointer (some ⟨e.2, 0, none⟩)] : List Value)[q]? = some u → w.cell? ⟨pg, i * 2 + q, none⟩ = some u := fun q u hq hu => by
      have hg : (prow es)[i * 2 + q]? = some u := by
        rw [prow, flatten_get (k := 2) (fun c hc => by
          obtain ⟨j, _, rfl⟩ := List.mem_map.1 hc
          rfl) i q hq, List.getElem?_map, he]
        exact hu
      have h1 := World.ownsRow.cells (g := pg) hrow (by rfl) (i * 2 + q) _ hg
      rw [Addr.add] at h1
      split at h1
      · rename_i h0; rw [h0]; exact h1
      · simpa using h1
    have g0 : w.cell? ⟨pg, i * 2, none⟩ = some (.pointer (some ⟨e.1, 0, none⟩)) := hcell 0 _ (by decide) rfl
    have g1 : w.cell? ⟨pg, i * 2 + 1, none⟩ = some (.pointer (some ⟨e.2, 0, none⟩)) := hcell 1 _ (by decide) rfl
    have hbd : Below w.heap.size w (w.alloc (.cells #[.int .i64 8, .int .i64 a, .int .i64 b, .int .i64 c, .string s, .int .i64 x1, .int .i64 x2, .int .i64 x3, .int .i64 x4, .int .i64 x5, .slice ta ts.length tc] 43)).drew := hb1.drew
    have HBD := hide hbd
    have HWK := hide (works8 own B Q (w.alloc (.cells #[.int .i64 8, .int .i64 a, .int .i64 b, .int .i64 c, .string s, .int .i64 x1, .int .i64 x2, .int .i64 x3, .int .i64 x4, .int .i64 x5, .slice ta ts.length tc] 43)).drew.heap.size psv nb ni ne nl nt es xs i e x N _ _ ((w.alloc (.cells #[.int .i64 8, .int .i64 a, .int .i64 b, .int .i64 c, .string s, .int .i64 x1, .int .i64 x2, .int .i64 x3, .int .i64 x4, .int .i64 x5, .slice ta ts.length tc] 43)).drew) (p.below hbd) (by have := hbd.size; omega) (show Op1 _ _ _ ⟨8, a, b, c, s, ⟨x1, x2, x3, x4, x5, ts⟩⟩ from ⟨_, rfl, (ht.same fun k e => hbd.block k (hTq k e)).tasks fun k e => by have := hTq k e; have := hbd.size; omega⟩) hok hin he hx hix rfl)
    have hii : (i : Int) < (es.length : Int) := by omega
    have hi0 : (0 : Int) ≤ (i : Int) := by omega
    have hmi : (0 : Int) < (es.length : Int) := by omega
    have HXS : Hid (∀ x' N', ExIn x' N' → ∀ y ∈ xs.set i x', ∃ N, ExIn y N) := fun x' N' h1 y hy => by
      rcases List.mem_or_eq_of_mem_set hy with hy | rfl
      · exact HII.out y hy
      · exact ⟨N', h1⟩
    have hown0 : own w.heap.size = 0 := own_new p (Nat.le_refl _)
    have HSS : Hid (∀ w3, (∃ own' ne' x' N', Rig w3 own' B Q psv nb ni ne' nl nt es (xs.set i x') (xs.set i x') ∧ ExIn x' N' ∧ ne' ≤ ne + 1 ∧ Fr (fun k => own k ≠ 0) (w.alloc (.cells #[.int .i64 8, .int .i64 a, .int .i64 b, .int .i64 c, .string s, .int .i64 x1, .int .i64 x2, .int .i64 x3, .int .i64 x4, .int .i64 x5, .slice ta ts.length tc] 43)).drew w3) → w3.cell? ⟨w.heap.size, 0, none⟩ = some (.int .i64 8) ∧ w3.cell? ⟨w.heap.size, 1, none⟩ = some (.int .i64 a) ∧ w3.cell? ⟨w.heap.size, 2, none⟩ = some (.int .i64 b) ∧ w3.cell? ⟨w.heap.size, 3, none⟩ = some (.int .i64 c) ∧ w3.cell? ⟨w.heap.size, 4, none⟩ = some (.string s) ∧ w3.cell? ⟨w.heap.size, 5, none⟩ = some (.int .i64 x1) ∧ w3.cell? ⟨w.heap.size, 6, none⟩ = some (.int .i64 x2) ∧ w3.cell? ⟨w.heap.size, 7, none⟩ = some (.int .i64 x3) ∧ w3.cell? ⟨w.heap.size, 8, none⟩ = some (.int .i64 x4) ∧ w3.cell? ⟨w.heap.size, 9, none⟩ = some (.int .i64 x5) ∧ w3.cell? ⟨w.heap.size, 10, none⟩ = some (.slice ta ts.length tc) ∧ w3.cell? ⟨B, 0, none⟩ = some (.slice (some ⟨pg, 0, none⟩) es.length pc) ∧ w3.cell? ⟨pg, i * 2, none⟩ = some (.pointer (some ⟨e.1, 0, none⟩)) ∧ w3.cell? ⟨pg, i * 2 + 1, none⟩ = some (.pointer (some ⟨e.2, 0, none⟩))) := fun w3 ⟨own', ne', x', N', h1, _, _, h5⟩ => by
      have hbo : Blk w3 w.heap.size #[.int .i64 8, .int .i64 a, .int .i64 b, .int .i64 c, .string s, .int .i64 x1, .int .i64 x2, .int .i64 x3, .int .i64 x4, .int .i64 x5, .slice ta ts.length tc] 43 := (h5.block w.heap.size (by simp) (fun e => e hown0)).trans (Blk.new w #[.int .i64 8, .int .i64 a, .int .i64 b, .int .i64 c, .string s, .int .i64 x1, .int .i64 x2, .int .i64 x3, .int .i64 x4, .int .i64 x5, .slice ta ts.length tc] 43).drew
      have hrow3 := h1.row
      rw [hpv] at hrow3
      have hcell3 : ∀ q u, q < 2 → ([Value.pointer (some ⟨e.1, 0, none⟩), Value.pointer (some ⟨e.2, 0, none⟩)] : List Value)[q]? = some u → w3.cell? ⟨pg, i * 2 + q, none⟩ = some u := fun q u hq hu => by
        have hg : (prow es)[i * 2 + q]? = some u := by
          rw [prow, flatten_get (k := 2) (fun c hc => by
            obtain ⟨j, _, rfl⟩ := List.mem_map.1 hc
            rfl) i q hq, List.getElem?_map, he]
          exact hu
        have h1 := World.ownsRow.cells (g := pg) hrow3 (by rfl) (i * 2 + q) _ hg
        rw [Addr.add] at h1
        split at h1
        · rename_i h0; rw [h0]; exact h1
        · simpa using h1
      obtain ⟨_, _, vb, vi, ve, vl, vt, hb3, _⟩ := h1.bk
      rw [hpv] at hb3
      exact ⟨hbo.cell 0, hbo.cell 1, hbo.cell 2, hbo.cell 3, hbo.cell 4, hbo.cell 5, hbo.cell 6, hbo.cell 7, hbo.cell 8, hbo.cell 9, hbo.cell 10, hb3.cell 0, hcell3 0 _ (by decide) rfl, hcell3 1 _ (by decide) rfl⟩
    have HS0 : Hid ((w.alloc (.cells #[.int .i64 8, .int .i64 a, .int .i64 b, .int .i64 c, .string s, .int .i64 x1, .int .i64 x2, .int .i64 x3, .int .i64 x4, .int .i64 x5, .slice ta ts.length tc] 43)).drew.cell? ⟨w.heap.size, 0, none⟩ = some (.int .i64 8) ∧ (w.alloc (.cells #[.int .i64 8, .int .i64 a, .int .i64 b, .int .i64 c, .string s, .int .i64 x1, .int .i64 x2, .int .i64 x3, .int .i64 x4, .int .i64 x5, .slice ta ts.length tc] 43)).drew.cell? ⟨w.heap.size, 1, none⟩ = some (.int .i64 a) ∧ (w.alloc (.cells #[.int .i64 8, .int .i64 a, .int .i64 b, .int .i64 c, .string s, .int .i64 x1, .int .i64 x2, .int .i64 x3, .int .i64 x4, .int .i64 x5, .slice ta ts.length tc] 43)).drew.cell? ⟨w.heap.size, 2, none⟩ = some (.int .i64 b) ∧ (w.alloc (.cells #[.int .i64 8, .int .i64 a, .int .i64 b, .int .i64 c, .string s, .int .i64 x1, .int .i64 x2, .int .i64 x3, .int .i64 x4, .int .i64 x5, .slice ta ts.length tc] 43)).drew.cell? ⟨w.heap.size, 3, none⟩ = some (.int .i64 c) ∧ (w.alloc (.cells #[.int .i64 8, .int .i64 a, .int .i64 b, .int .i64 c, .string s, .int .i64 x1, .int .i64 x2, .int .i64 x3, .int .i64 x4, .int .i64 x5, .slice ta ts.length tc] 43)).drew.cell? ⟨w.heap.size, 4, none⟩ = some (.string s) ∧ (w.alloc (.cells #[.int .i64 8, .int .i64 a, .int .i64 b, .int .i64 c, .string s, .int .i64 x1, .int .i64 x2, .int .i64 x3, .int .i64 x4, .int .i64 x5, .slice ta ts.length tc] 43)).drew.cell? ⟨w.heap.size, 5, none⟩ = some (.int .i64 x1) ∧ (w.alloc (.cells #[.int .i64 8, .int .i64 a, .int .i64 b, .int .i64 c, .string s, .int .i64 x1, .int .i64 x2, .int .i64 x3, .int .i64 x4, .int .i64 x5, .slice ta ts.length tc] 43)).drew.cell? ⟨w.heap.size, 6, none⟩ = some (.int .i64 x2) ∧ (w.alloc (.cells #[.int .i64 8, .int .i64 a, .int .i64 b, .int .i64 c, .string s, .int .i64 x1, .int .i64 x2, .int .i64 x3, .int .i64 x4, .int .i64 x5, .slice ta ts.length tc] 43)).drew.cell? ⟨w.heap.size, 7, none⟩ = some (.int .i64 x3) ∧ (w.alloc (.cells #[.int .i64 8, .int .i64 a, .int .i64 b, .int .i64 c, .string s, .int .i64 x1, .int .i64 x2, .int .i64 x3, .int .i64 x4, .int .i64 x5, .slice ta ts.length tc] 43)).drew.cell? ⟨w.heap.size, 8, none⟩ = some (.int .i64 x4) ∧ (w.alloc (.cells #[.int .i64 8, .int .i64 a, .int .i64 b, .int .i64 c, .string s, .int .i64 x1, .int .i64 x2, .int .i64 x3, .int .i64 x4, .int .i64 x5, .slice ta ts.length tc] 43)).drew.cell? ⟨w.heap.size, 9, none⟩ = some (.int .i64 x5) ∧ (w.alloc (.cells #[.int .i64 8, .int .i64 a, .int .i64 b, .int .i64 c, .string s, .int .i64 x1, .int .i64 x2, .int .i64 x3, .int .i64 x4, .int .i64 x5, .slice ta ts.length tc] 43)).drew.cell? ⟨w.heap.size, 10, none⟩ = some (.slice ta ts.length tc) ∧ (w.alloc (.cells #[.int .i64 8, .int .i64 a, .int .i64 b, .int .i64 c, .string s, .int .i64 x1, .int .i64 x2, .int .i64 x3, .int .i64 x4, .int .i64 x5, .slice ta ts.length tc] 43)).drew.cell? ⟨B, 0, none⟩ = some (.slice (some ⟨pg, 0, none⟩) es.length pc) ∧ (w.alloc (.cells #[.int .i64 8, .int .i64 a, .int .i64 b, .int .i64 c, .string s, .int .i64 x1, .int .i64 x2, .int .i64 x3, .int .i64 x4, .int .i64 x5, .slice ta ts.length tc] 43)).drew.cell? ⟨pg, i * 2, none⟩ = some (.pointer (some ⟨e.1, 0, none⟩)) ∧ (w.alloc (.cells #[.int .i64 8, .int .i64 a, .int .i64 b, .int .i64 c, .string s, .int .i64 x1, .int .i64 x2, .int .i64 x3, .int .i64 x4, .int .i64 x5, .slice ta ts.length tc] 43)).drew.cell? ⟨pg, i * 2 + 1, none⟩ = some (.pointer (some ⟨e.2, 0, none⟩))) := HSS.out _ ⟨own, ne, x, N, by rw [set_self hx]; exact p.below hbd, hix, by omega, Fr.refl _ _⟩
    have HLOB : Hid (∀ k, own k ≠ 0 → B ≤ k) := fun k e => (p.lo k e).1
    generalize hml : es.length = ml at *
    clear p ht hb1 hbb hcs0 hin hi hpv hrow hcell he hx hix hbd hpk hel0 hown0
    go_enter Tryz.func8, Tryz.ntmps8
    go_upto_region 16 with (fail)
    generalize w.alloc (.cells #[.int .i64 8, .int .i64 a, .int .i64 b, .int .i64 c, .string s, .int .i64 x1, .int .i64 x2, .int .i64 x3, .int .i64 x4, .int .i64 x5, .slice ta ts.length tc] 43) = W1 at *
    clear b0 g0 g1
    apply wp_someW (fun w3 => ∃ own' ne' x' N', Rig w3 own' B Q psv nb ni ne' nl nt es (xs.set i x') (xs.set i x') ∧ ExIn x' N' ∧ ne' ≤ ne + 1 ∧ Fr (fun k => own k ≠ 0) W1.drew w3)
    case h =>
      go_region_held3 (fun w3 => w3.cell? ⟨w.heap.size, 0, none⟩ = some (.int .i64 8) ∧ w3.cell? ⟨w.heap.size, 1, none⟩ = some (.int .i64 a) ∧ w3.cell? ⟨w.heap.size, 2, none⟩ = some (.int .i64 b) ∧ w3.cell? ⟨w.heap.size, 3, none⟩ = some (.int .i64 c) ∧ w3.cell? ⟨w.heap.size, 4, none⟩ = some (.string s) ∧ w3.cell? ⟨w.heap.size, 5, none⟩ = some (.int .i64 x1) ∧ w3.cell? ⟨w.heap.size, 6, none⟩ = some (.int .i64 x2) ∧ w3.cell? ⟨w.heap.size, 7, none⟩ = some (.int .i64 x3) ∧ w3.cell? ⟨w.heap.size, 8, none⟩ = some (.int .i64 x4) ∧ w3.cell? ⟨w.heap.size, 9, none⟩ = some (.int .i64 x5) ∧ w3.cell? ⟨w.heap.size, 10, none⟩ = some (.slice ta ts.length tc) ∧ w3.cell? ⟨B, 0, none⟩ = some (.slice (some ⟨pg, 0, none⟩) ml pc) ∧ w3.cell? ⟨pg, i * 2, none⟩ = some (.pointer (some ⟨e.1, 0, none⟩)) ∧ w3.cell? ⟨pg, i * 2 + 1, none⟩ = some (.pointer (some ⟨e.2, 0, none⟩))) (first | exact HS0.out | exact HS3.out) (first
        | (go_at_call 16; refine HPK.out.mono ?_; rintro e' w' ⟨rfl, rfl⟩)
        | (go_at_call 15; refine HWK.out.mono ?_; rintro e' w3 ⟨rfl, hpost⟩; have HPOST := hide hpost; have HS3 := hide (HSS.out w3 hpost); clear hpost))
      all_goals exact ⟨w3, HPOST.out, rfl, rfl⟩
    rintro w3 hpost
    have HPOST := hide hpost
    clear hpost
    go_wp2_with fail
    go_ret
    obtain ⟨own', ne', x', N', h1, h2, h4, h5⟩ := HPOST.out
    exact ⟨rfl, own', ne', xs.set i x', h1, h4, HXS.out x' N' h2, (HBD.out.mono hB).trans (h5.below (by have := HBD.out.size; omega) HLOB.out)⟩

set_option maxRecDepth 100000 in
set_option maxHeartbeats 1600000 in
theorem step9 (own : Nat → Nat) (B Q : Nat) (Tq : Nat → Prop) (psv : Value) (nb ni ne nl nt : Nat) (es : List (Nat × Nat)) (xs : List Exs) (v : Value) (o : Stp) (w : World) (p : Rig w own B Q psv nb ni ne nl nt es xs xs) (hB : B ≤ w.heap.size) (hv : OpQ w Tq v o) (hTq : ∀ k, Tq k → k < w.heap.size) (hok : StpIn o) (hel : es.length ≤ 1300000000000) (hne : ne ≤ 1300000000000) (hi : ∀ x ∈ xs, ∃ N, ExIn x N) (hk : o.kind = 9) :
    Calls Tryz.prog 8 #[.pointer (some ⟨B, 0, none⟩), v] w fun r w' => r = .returned (.bool true) ∧ ∃ own' ne' xs', Rig w' own' B Q psv nb ni ne' nl nt es xs' xs' ∧ ne' ≤ ne + 1 ∧ (∀ x ∈ xs', ∃ N, ExIn x N) ∧ Below B w w' := by
  obtain ⟨hok, hin⟩ := hok
  obtain ⟨t, rfl, ht⟩ := hv
  obtain ⟨kind, a, b, c, s, cfg⟩ := o
  obtain ⟨x1, x2, x3, x4, x5, ts⟩ := cfg
  simp only at ht hk hin ⊢
  subst hk
  obtain ⟨ta, tc, rfl⟩ := ht.slice
  have hb1 : Below w.heap.size w (w.alloc (.cells #[.int .i64 9, .int .i64 a, .int .i64 b, .int .i64 c, .string s, .int .i64 x1, .int .i64 x2, .int .i64 x3, .int .i64 x4, .int .i64 x5, .slice ta ts.length tc] 43)) := (Below.refl _ _).alloc (Nat.le_refl _) _
  have HB1 := hide hb1
  have HO1 := hide (Blk.new w #[.int .i64 9, .int .i64 a, .int .i64 b, .int .i64 c, .string s, .int .i64 x1, .int .i64 x2, .int .i64 x3, .int .i64 x4, .int .i64 x5, .slice ta ts.length tc] 43)
  have HP := hide p
  have hBw : B < w.heap.size := (p.lo B (by rw [p.bk.2.1]; decide)).2
  obtain ⟨pa, pc, hpv⟩ := ownsRow_slice p.row
  have HBB : Hid (∃ cs, Blk w B cs 36 ∧ cs[0]? = some (.slice pa es.length pc)) := by
    obtain ⟨_, _, vb, vi, ve, vl, vt, hb, _⟩ := p.bk
    exact ⟨_, hb, by rw [hpv]; rfl⟩
  obtain ⟨cs, hbb, hcs0⟩ := HBB.out
  have b0 : w.cell? ⟨B, 0, none⟩ = some (.slice pa es.length pc) := (hbb.cell 0).trans hcs0
  have HIN := hide hin
  have HII := hide hi
  by_cases hel0 : es.length = 0
  · rw [hel0] at b0
    clear p ht hb1 hbb hcs0 hin hi hpv
    go_enter Tryz.func8, Tryz.ntmps8
    go_wp2_with fail
    go_ret
    exact ⟨rfl, own, ne, xs, HP.out.below HB1.out, by omega, HII.out, HB1.out.mono hB⟩
  · have hm0 : 0 < es.length := Nat.pos_of_ne_zero hel0
    obtain ⟨i, hpk⟩ : ∃ i : Nat, pk a (es.length : Int) = i := ⟨(pk a (es.length : Int)).toNat, by have := pk_lo a (es.length : Int) (by omega); omega⟩
    have hil : i < es.length := by have := pk_hi a (es.length : Int) (by omega); omega
    obtain ⟨e, he⟩ := get_of_lt (l := es) (k := i) hil
    obtain ⟨x, hx⟩ := get_of_lt (l := xs) (k := i) (by rw [p.lx]; exact hil)
    obtain ⟨N, hix⟩ := hi x (List.mem_of_getElem? hx)
    have HPK := hide (lawPick_any a (es.length : Int) ((w.alloc (.cells #[.int .i64 9, .int .i64 a, .int .i64 b, .int .i64 c, .string s, .int .i64 x1, .int .i64 x2, .int .i64 x3, .int .i64 x4, .int .i64 x5, .slice ta ts.length tc] 43)).drew) hin.1 (by omega) (by omega))
    rw [hpk] at HPK
    obtain ⟨pg, pcap, hpg, hpc1, -⟩ := ownsRow_some p.row hm0
    rw [hpv] at hpg
    simp only [Value.slice.injEq, true_and] at hpg
    obtain ⟨rfl, rfl⟩ := hpg
    have hrow := p.row
    rw [hpv] at hrow
    have hpgl := (ownsRow_lt hrow (k := pg) rfl).2
    have hcell : ∀ q u, q < 2 → ([Value.pointer (some ⟨e.1, 0, none⟩), Value.pointer (some ⟨e.2, 0, none⟩)] : List Value)[q]? = some u → w.cell? ⟨pg, i * 2 + q, none⟩ = some u := fun q u hq hu => by
      have hg : (prow es)[i * 2 + q]? = some u := by
        rw [prow, flatten_get (k := 2) (fun c hc => by
          obtain ⟨j, _, rfl⟩ := List.mem_map.1 hc
          rfl) i q hq, List.getElem?_map, he]
        exact hu
      have h1 := World.ownsRow.cells (g := pg) hrow (by rfl) (i * 2 + q) _ hg
      rw [Addr.add] at h1
      split at h1
      · rename_i h0; rw [h0]; exact h1
      · simpa using h1
    have g0 : w.cell? ⟨pg, i * 2, none⟩ = some (.pointer (some ⟨e.1, 0, none⟩)) := hcell 0 _ (by decide) rfl
    have g1 : w.cell? ⟨pg, i * 2 + 1, none⟩ = some (.pointer (some ⟨e.2, 0, none⟩)) := hcell 1 _ (by decide) rfl
    have hbd : Below w.heap.size w (w.alloc (.cells #[.int .i64 9, .int .i64 a, .int .i64 b, .int .i64 c, .string s, .int .i64 x1, .int .i64 x2, .int .i64 x3, .int .i64 x4, .int .i64 x5, .slice ta ts.length tc] 43)).drew := hb1.drew
    have HBD := hide hbd
    have HWK := hide (works9 own B Q (w.alloc (.cells #[.int .i64 9, .int .i64 a, .int .i64 b, .int .i64 c, .string s, .int .i64 x1, .int .i64 x2, .int .i64 x3, .int .i64 x4, .int .i64 x5, .slice ta ts.length tc] 43)).drew.heap.size psv nb ni ne nl nt es xs i e x N _ _ ((w.alloc (.cells #[.int .i64 9, .int .i64 a, .int .i64 b, .int .i64 c, .string s, .int .i64 x1, .int .i64 x2, .int .i64 x3, .int .i64 x4, .int .i64 x5, .slice ta ts.length tc] 43)).drew) (p.below hbd) (by have := hbd.size; omega) (show Op1 _ _ _ ⟨9, a, b, c, s, ⟨x1, x2, x3, x4, x5, ts⟩⟩ from ⟨_, rfl, (ht.same fun k e => hbd.block k (hTq k e)).tasks fun k e => by have := hTq k e; have := hbd.size; omega⟩) hok hin he hx hix hne rfl)
    have hii : (i : Int) < (es.length : Int) := by omega
    have hi0 : (0 : Int) ≤ (i : Int) := by omega
    have hmi : (0 : Int) < (es.length : Int) := by omega
    have HXS : Hid (∀ x' N', ExIn x' N' → ∀ y ∈ xs.set i x', ∃ N, ExIn y N) := fun x' N' h1 y hy => by
      rcases List.mem_or_eq_of_mem_set hy with hy | rfl
      · exact HII.out y hy
      · exact ⟨N', h1⟩
    have hown0 : own w.heap.size = 0 := own_new p (Nat.le_refl _)
    have HSS : Hid (∀ w3, (∃ own' ne' x' N', Rig w3 own' B Q psv nb ni ne' nl nt es (xs.set i x') (xs.set i x') ∧ ExIn x' N' ∧ ne' ≤ ne + 1 ∧ Fr (fun k => own k ≠ 0) (w.alloc (.cells #[.int .i64 9, .int .i64 a, .int .i64 b, .int .i64 c, .string s, .int .i64 x1, .int .i64 x2, .int .i64 x3, .int .i64 x4, .int .i64 x5, .slice ta ts.length tc] 43)).drew w3) → w3.cell? ⟨w.heap.size, 0, none⟩ = some (.int .i64 9) ∧ w3.cell? ⟨w.heap.size, 1, none⟩ = some (.int .i64 a) ∧ w3.cell? ⟨w.heap.size, 2, none⟩ = some (.int .i64 b) ∧ w3.cell? ⟨w.heap.size, 3, none⟩ = some (.int .i64 c) ∧ w3.cell? ⟨w.heap.size, 4, none⟩ = some (.string s) ∧ w3.cell? ⟨w.heap.size, 5, none⟩ = some (.int .i64 x1) ∧ w3.cell? ⟨w.heap.size, 6, none⟩ = some (.int .i64 x2) ∧ w3.cell? ⟨w.heap.size, 7, none⟩ = some (.int .i64 x3) ∧ w3.cell? ⟨w.heap.size, 8, none⟩ = some (.int .i64 x4) ∧ w3.cell? ⟨w.heap.size, 9, none⟩ = some (.int .i64 x5) ∧ w3.cell? ⟨w.heap.size, 10, none⟩ = some (.slice ta ts.length tc) ∧ w3.cell? ⟨B, 0, none⟩ = some (.slice (some ⟨pg, 0, none⟩) es.length pc) ∧ w3.cell? ⟨pg, i * 2, none⟩ = some (.pointer (some ⟨e.1, 0, none⟩)) ∧ w3.cell? ⟨pg, i * 2 + 1, none⟩ = some (.pointer (some ⟨e.2, 0, none⟩))) := fun w3 ⟨own', ne', x', N', h1, _, _, h5⟩ => by
      have hbo : Blk w3 w.heap.size #[.int .i64 9, .int .i64 a, .int .i64 b, .int .i64 c, .string s, .int .i64 x1, .int .i64 x2, .int .i64 x3, .int .i64 x4, .int .i64 x5, .slice ta ts.length tc] 43 := (h5.block w.heap.size (by simp) (fun e => e hown0)).trans (Blk.new w #[.int .i64 9, .int .i64 a, .int .i64 b, .int .i64 c, .string s, .int .i64 x1, .int .i64 x2, .int .i64 x3, .int .i64 x4, .int .i64 x5, .slice ta ts.length tc] 43).drew
      have hrow3 := h1.row
      rw [hpv] at hrow3
      have hcell3 : ∀ q u, q < 2 → ([Value.pointer (some ⟨e.1, 0, none⟩), Value.pointer (some ⟨e.2, 0, none⟩)] : List Value)[q]? = some u → w3.cell? ⟨pg, i * 2 + q, none⟩ = some u := fun q u hq hu => by
        have hg : (prow es)[i * 2 + q]? = some u := by
          rw [prow, flatten_get (k := 2) (fun c hc => by
            obtain ⟨j, _, rfl⟩ := List.mem_map.1 hc
            rfl) i q hq, List.getElem?_map, he]
          exact hu
        have h1 := World.ownsRow.cells (g := pg) hrow3 (by rfl) (i * 2 + q) _ hg
        rw [Addr.add] at h1
        split at h1
        · rename_i h0; rw [h0]; exact h1
        · simpa using h1
      obtain ⟨_, _, vb, vi, ve, vl, vt, hb3, _⟩ := h1.bk
      rw [hpv] at hb3
      exact ⟨hbo.cell 0, hbo.cell 1, hbo.cell 2, hbo.cell 3, hbo.cell 4, hbo.cell 5, hbo.cell 6, hbo.cell 7, hbo.cell 8, hbo.cell 9, hbo.cell 10, hb3.cell 0, hcell3 0 _ (by decide) rfl, hcell3 1 _ (by decide) rfl⟩
    have HS0 : Hid ((w.alloc (.cells #[.int .i64 9, .int .i64 a, .int .i64 b, .int .i64 c, .string s, .int .i64 x1, .int .i64 x2, .int .i64 x3, .int .i64 x4, .int .i64 x5, .slice ta ts.length tc] 43)).drew.cell? ⟨w.heap.size, 0, none⟩ = some (.int .i64 9) ∧ (w.alloc (.cells #[.int .i64 9, .int .i64 a, .int .i64 b, .int .i64 c, .string s, .int .i64 x1, .int .i64 x2, .int .i64 x3, .int .i64 x4, .int .i64 x5, .slice ta ts.length tc] 43)).drew.cell? ⟨w.heap.size, 1, none⟩ = some (.int .i64 a) ∧ (w.alloc (.cells #[.int .i64 9, .int .i64 a, .int .i64 b, .int .i64 c, .string s, .int .i64 x1, .int .i64 x2, .int .i64 x3, .int .i64 x4, .int .i64 x5, .slice ta ts.length tc] 43)).drew.cell? ⟨w.heap.size, 2, none⟩ = some (.int .i64 b) ∧ (w.alloc (.cells #[.int .i64 9, .int .i64 a, .int .i64 b, .int .i64 c, .string s, .int .i64 x1, .int .i64 x2, .int .i64 x3, .int .i64 x4, .int .i64 x5, .slice ta ts.length tc] 43)).drew.cell? ⟨w.heap.size, 3, none⟩ = some (.int .i64 c) ∧ (w.alloc (.cells #[.int .i64 9, .int .i64 a, .int .i64 b, .int .i64 c, .string s, .int .i64 x1, .int .i64 x2, .int .i64 x3, .int .i64 x4, .int .i64 x5, .slice ta ts.length tc] 43)).drew.cell? ⟨w.heap.size, 4, none⟩ = some (.string s) ∧ (w.alloc (.cells #[.int .i64 9, .int .i64 a, .int .i64 b, .int .i64 c, .string s, .int .i64 x1, .int .i64 x2, .int .i64 x3, .int .i64 x4, .int .i64 x5, .slice ta ts.length tc] 43)).drew.cell? ⟨w.heap.size, 5, none⟩ = some (.int .i64 x1) ∧ (w.alloc (.cells #[.int .i64 9, .int .i64 a, .int .i64 b, .int .i64 c, .string s, .int .i64 x1, .int .i64 x2, .int .i64 x3, .int .i64 x4, .int .i64 x5, .slice ta ts.length tc] 43)).drew.cell? ⟨w.heap.size, 6, none⟩ = some (.int .i64 x2) ∧ (w.alloc (.cells #[.int .i64 9, .int .i64 a, .int .i64 b, .int .i64 c, .string s, .int .i64 x1, .int .i64 x2, .int .i64 x3, .int .i64 x4, .int .i64 x5, .slice ta ts.length tc] 43)).drew.cell? ⟨w.heap.size, 7, none⟩ = some (.int .i64 x3) ∧ (w.alloc (.cells #[.int .i64 9, .int .i64 a, .int .i64 b, .int .i64 c, .string s, .int .i64 x1, .int .i64 x2, .int .i64 x3, .int .i64 x4, .int .i64 x5, .slice ta ts.length tc] 43)).drew.cell? ⟨w.heap.size, 8, none⟩ = some (.int .i64 x4) ∧ (w.alloc (.cells #[.int .i64 9, .int .i64 a, .int .i64 b, .int .i64 c, .string s, .int .i64 x1, .int .i64 x2, .int .i64 x3, .int .i64 x4, .int .i64 x5, .slice ta ts.length tc] 43)).drew.cell? ⟨w.heap.size, 9, none⟩ = some (.int .i64 x5) ∧ (w.alloc (.cells #[.int .i64 9, .int .i64 a, .int .i64 b, .int .i64 c, .string s, .int .i64 x1, .int .i64 x2, .int .i64 x3, .int .i64 x4, .int .i64 x5, .slice ta ts.length tc] 43)).drew.cell? ⟨w.heap.size, 10, none⟩ = some (.slice ta ts.length tc) ∧ (w.alloc (.cells #[.int .i64 9, .int .i64 a, .int .i64 b, .int .i64 c, .string s, .int .i64 x1, .int .i64 x2, .int .i64 x3, .int .i64 x4, .int .i64 x5, .slice ta ts.length tc] 43)).drew.cell? ⟨B, 0, none⟩ = some (.slice (some ⟨pg, 0, none⟩) es.length pc) ∧ (w.alloc (.cells #[.int .i64 9, .int .i64 a, .int .i64 b, .int .i64 c, .string s, .int .i64 x1, .int .i64 x2, .int .i64 x3, .int .i64 x4, .int .i64 x5, .slice ta ts.length tc] 43)).drew.cell? ⟨pg, i * 2, none⟩ = some (.pointer (some ⟨e.1, 0, none⟩)) ∧ (w.alloc (.cells #[.int .i64 9, .int .i64 a, .int .i64 b, .int .i64 c, .string s, .int .i64 x1, .int .i64 x2, .int .i64 x3, .int .i64 x4, .int .i64 x5, .slice ta ts.length tc] 43)).drew.cell? ⟨pg, i * 2 + 1, none⟩ = some (.pointer (some ⟨e.2, 0, none⟩))) := HSS.out _ ⟨own, ne, x, N, by rw [set_self hx]; exact p.below hbd, hix, by omega, Fr.refl _ _⟩
    have HLOB : Hid (∀ k, own k ≠ 0 → B ≤ k) := fun k e => (p.lo k e).1
    generalize hml : es.length = ml at *
    clear p ht hb1 hbb hcs0 hin hi hpv hrow hcell he hx hix hbd hpk hel0 hown0
    go_enter Tryz.func8, Tryz.ntmps8
    go_upto_region 16 with (fail)
    generalize w.alloc (.cells #[.int .i64 9, .int .i64 a, .int .i64 b, .int .i64 c, .string s, .int .i64 x1, .int .i64 x2, .int .i64 x3, .int .i64 x4, .int .i64 x5, .slice ta ts.length tc] 43) = W1 at *
    clear b0 g0 g1
    apply wp_someW (fun w3 => ∃ own' ne' x' N', Rig w3 own' B Q psv nb ni ne' nl nt es (xs.set i x') (xs.set i x') ∧ ExIn x' N' ∧ ne' ≤ ne + 1 ∧ Fr (fun k => own k ≠ 0) W1.drew w3)
    case h =>
      go_region_held3 (fun w3 => w3.cell? ⟨w.heap.size, 0, none⟩ = some (.int .i64 9) ∧ w3.cell? ⟨w.heap.size, 1, none⟩ = some (.int .i64 a) ∧ w3.cell? ⟨w.heap.size, 2, none⟩ = some (.int .i64 b) ∧ w3.cell? ⟨w.heap.size, 3, none⟩ = some (.int .i64 c) ∧ w3.cell? ⟨w.heap.size, 4, none⟩ = some (.string s) ∧ w3.cell? ⟨w.heap.size, 5, none⟩ = some (.int .i64 x1) ∧ w3.cell? ⟨w.heap.size, 6, none⟩ = some (.int .i64 x2) ∧ w3.cell? ⟨w.heap.size, 7, none⟩ = some (.int .i64 x3) ∧ w3.cell? ⟨w.heap.size, 8, none⟩ = some (.int .i64 x4) ∧ w3.cell? ⟨w.heap.size, 9, none⟩ = some (.int .i64 x5) ∧ w3.cell? ⟨w.heap.size, 10, none⟩ = some (.slice ta ts.length tc) ∧ w3.cell? ⟨B, 0, none⟩ = some (.slice (some ⟨pg, 0, none⟩) ml pc) ∧ w3.cell? ⟨pg, i * 2, none⟩ = some (.pointer (some ⟨e.1, 0, none⟩)) ∧ w3.cell? ⟨pg, i * 2 + 1, none⟩ = some (.pointer (some ⟨e.2, 0, none⟩))) (first | exact HS0.out | exact HS3.out) (first
        | (go_at_call 16; refine HPK.out.mono ?_; rintro e' w' ⟨rfl, rfl⟩)
        | (go_at_call 15; refine HWK.out.mono ?_; rintro e' w3 ⟨rfl, hpost⟩; have HPOST := hide hpost; have HS3 := hide (HSS.out w3 hpost); clear hpost))
      all_goals exact ⟨w3, HPOST.out, rfl, rfl⟩
    rintro w3 hpost
    have HPOST := hide hpost
    clear hpost
    go_wp2_with fail
    go_ret
    obtain ⟨own', ne', x', N', h1, h2, h4, h5⟩ := HPOST.out
    exact ⟨rfl, own', ne', xs.set i x', h1, h4, HXS.out x' N' h2, (HBD.out.mono hB).trans (h5.below (by have := HBD.out.size; omega) HLOB.out)⟩

theorem planW : PlanQ StW [4, 5, 6, 7, 8, 9] where
  init := StW.init
  later := StW.later
  looks := StW.looks
  step := by
    intro B w n v o Tq hst hn hB hv hTq hok hmem
    obtain ⟨own, Q, psv, nb, ni, ne, nl, nt, es, xs, p, h1, h2, h3, h4, h5, h6, h7, h8⟩ := hst
    have hq : ∀ k, Tq k → k < w.heap.size ∧ own k = 0 := fun k e => by
      obtain ⟨q1, q2, q3⟩ := hTq k e
      refine ⟨q1, ?_⟩
      rcases q3 with q3 | q3
      · by_cases h : own k = 0
        · exact h
        · have := (p.lo k h).1; omega
      · exact h8 q3 k q2
    have key : ∀ {k : Int}, (Calls Tryz.prog 8 #[.pointer (some ⟨B, 0, none⟩), v] w fun r w' => r = .returned (.bool true) ∧ ∃ own' ne' xs', Rig w' own' B Q psv nb ni ne' nl nt es xs' xs' ∧ ne' ≤ ne + 1 ∧ (∀ x ∈ xs', ∃ N, ExIn x N) ∧ Below B w w') → Calls Tryz.prog 8 #[.pointer (some ⟨B, 0, none⟩), v] w fun e w' => e = .returned (.bool true) ∧ StW B w' (n + 1) ∧ Below B w w' := fun hc => by
      refine hc.mono ?_
      rintro r w' ⟨rfl, own', ne', xs', q1, q2, q3, q4⟩
      exact ⟨rfl, ⟨own', Q, psv, nb, ni, ne', nl, nt, es, xs', q1, h1, h2, by omega, h4, h5, by omega, q3, fun h => by omega⟩, q4⟩
    simp only [List.mem_cons, List.not_mem_nil, or_false] at hmem
    rcases hmem with hk | hk | hk | hk | hk | hk
    · refine (step4 own B Q Tq psv nb ni ne nl nt es xs v o w p hB hv hq hok.1 (by omega) hk).mono ?_
      rintro r w' ⟨rfl, own', Q', psv', es', xs', q1, q2, q3, q4⟩
      refine ⟨rfl, ⟨own', Q', psv', nb, ni, ne, nl, nt, es', xs', q1, h1, h2, by omega, h4, h5, by omega, fun x hx => ?_, fun h => by omega⟩, q4⟩
      rcases q3 x hx with hx | hx
      · exact h7 x hx
      · exact ⟨0, hx⟩
    · exact key (k := 5) (step5 own B Q Tq psv nb ni ne nl nt es xs v o w p hB hv (fun k e => (hq k e).1) hok (by omega) (by omega) h7 hk)
    · exact key (k := 6) (step6 own B Q Tq psv nb ni ne nl nt es xs v o w p hB hv (fun k e => (hq k e).1) hok (by omega) (by omega) h7 hk)
    · exact key (k := 7) (step7 own B Q Tq psv nb ni ne nl nt es xs v o w p hB hv (fun k e => (hq k e).1) hok (by omega) (by omega) h7 hk)
    · exact key (k := 8) (step8 own B Q Tq psv nb ni ne nl nt es xs v o w p hB hv (fun k e => (hq k e).1) hok (by omega) (by omega) h7 hk)
    · exact key (k := 9) (step9 own B Q Tq psv nb ni ne nl nt es xs v o w p hB hv (fun k e => (hq k e).1) hok (by omega) (by omega) h7 hk)
set_option maxRecDepth 100000 in
set_option maxHeartbeats 400000 in
theorem works_true (B0 : Nat) (sv : Value) (os : List Stp) (w : World) (hs : Script w B0 sv os) (hB : B0 ≤ w.heap.size) (hn : os.length ≤ 1256584717421) (hok : ∀ o ∈ os, StpIn o) :
    Calls Tryz.prog 5 #[sv] w fun e w' => e = .returned (.bool true) ∧ Below w.heap.size w w' := by
  obtain ⟨sa, sc, rfl, hs⟩ := hs
  have HB1 : Hid (Below w.heap.size w (w.alloc (.cells #[.int .i64 4, .int .i64 5, .int .i64 6, .int .i64 7, .int .i64 8, .int .i64 9] 3))) := (Below.refl _ _).alloc (Nat.le_refl _) _
  have HP := hide (playsQ_true planW B0 (.slice sa os.length sc) (.slice (some ⟨w.heap.size, 0, none⟩) 6 6) os (w.alloc (.cells #[.int .i64 4, .int .i64 5, .int .i64 6, .int .i64 7, .int .i64 8, .int .i64 9] 3)) ⟨sa, sc, rfl, hs.imp id fun ⟨b, o, h1, h2, h3⟩ => ⟨b, o, h1, h2, fun i s hi => (h3 i s hi).later HB1.out hB (by omega)⟩⟩
    ⟨w.heap.size, 6, rfl, by simp, fun i x hi => by
      have hb := Blk.new w #[.int .i64 4, .int .i64 5, .int .i64 6, .int .i64 7, .int .i64 8, .int .i64 9] 3
      match i, hi with
      | 0, hi => simp at hi; subst hi; exact hb.cell 0
      | 1, hi => simp at hi; subst hi; exact hb.cell 1
      | 2, hi => simp at hi; subst hi; exact hb.cell 2
      | 3, hi => simp at hi; subst hi; exact hb.cell 3
      | 4, hi => simp at hi; subst hi; exact hb.cell 4
      | 5, hi => simp at hi; subst hi; exact hb.cell 5
      | i + 6, hi => simp at hi⟩ (by simp) (by simp) (by simp; omega) hn hok)
  clear hs hok
  go_enter Tryz.func5, Tryz.ntmps5
  go_wp2_with fail
  refine HP.out.mono ?_
  rintro e w2 ⟨rfl, q2⟩
  have HQ : Hid (Below w.heap.size w w2) := HB1.out.trans (q2.mono (by simp))
  clear q2
  go_wp2
  go_ret
  exact ⟨rfl, HQ.out⟩

end Go.Proofs.YthloffgebebijaaGreat
