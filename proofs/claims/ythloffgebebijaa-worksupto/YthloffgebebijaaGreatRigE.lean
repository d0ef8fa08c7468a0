/- RigE: the walk of tillerlaw's (*World).made. -/
import Derived.Test.YthloffgebebijaaGreatRigK
import Derived.Test.YthloffgebebijaaGreatEncW
namespace Go.Proofs.YthloffgebebijaaGreat
open Go.RowKit Go.MuLone

theorem info_pair : (Tryz.prog.info? 49).map (fun i => (i.zero, i.size, i.bytes)) = some (some (.agg #[.pointer none, .pointer none]), 2, 16) := by kernel_rfl
/-- The value reads as the step; its tasks lie in blocks of T. -/
def OpQ (w : World) (T : Nat → Prop) (v : Value) (o : Stp) : Prop :=
  ∃ t, v = .agg #[.int .i64 o.kind, .int .i64 o.a, .int .i64 o.b, .int .i64 o.c, .string o.s, .int .i64 o.cfg.lines, .int .i64 o.cfg.room, .int .i64 o.cfg.poll, .int .i64 o.cfg.idle, .int .i64 o.cfg.sw, t] ∧ TasksQ w T t o.cfg.tasks
theorem OpQ.op1 {w : World} {T : Nat → Prop} {v : Value} {o : Stp} {B : Nat} (h : OpQ w T v o) (hT : ∀ k, T k → k < B) : Op1 w B v o := by
  obtain ⟨t, hv, ht⟩ := h
  exact ⟨t, hv, ht.tasks hT⟩
/-- The list of pairs turns. -/
theorem BookAt.ps {w : World} {S : Nat → Prop} {B W : Nat} {ps : Value} {nb ni ne nl nt : Nat} (h : BookAt w S B W ps nb ni ne nl nt) (ps' : Value) : BookAt (w.setCell ⟨W, 0, none⟩ ps') S B W ps' nb ni ne nl nt := by
  obtain ⟨h1, h2, vb, vi, ve, vl, vt, hb, e1, e2, e3, e4, e5⟩ := h
  have hk : KeepBut 36 0 w (w.setCell ⟨W, 0, none⟩ ps') := ⟨rfl, rfl, rfl, by simp, fun k hk hor => by
    refine heap_setCell_other w ⟨W, 0, none⟩ k _ fun e => ?_
    rcases hor with hor | hor
    · omega
    · subst e
      exact hor _ _ hb⟩
  refine ⟨fun k hk => by simpa using h1 k hk, h2, vb, vi, ve, vl, vt, ?_, e1.keptBut hk (by decide) (by decide), e2.keptBut hk (by decide) (by decide), e3.keptBut hk (by decide) (by decide), e4.keptBut hk (by decide) (by decide), e5.keptBut hk (by decide) (by decide)⟩
  exact hb.set 0 ps'

open Classical in
/-- A pair more: the program's executive in the blocks from a on below b, the reference's from c on below d. -/
theorem Rig.more {w w8 : World} {own : Nat → Nat} {B Q : Nat} {psv v8 : Value} {nb ni ne nl nt : Nat} {es : List (Nat × Nat)} {xs : List Exs} (p : Rig w own B Q psv nb ni ne nl nt es xs xs) (hB : B ≤ w.heap.size) {a b c d X Y : Nat} {x : Exs} {T : Nat → Prop} (hab : w.heap.size ≤ a ∧ a ≤ b ∧ b ≤ c ∧ c ≤ d ∧ d ≤ w8.heap.size) (hf : Fr (fun k => psv.ownBlock = some k) w w8)
    (hx : Xec w8 (fun k => a ≤ k ∧ k < b) a X x) (hT : ∀ k, T k → k < w.heap.size ∧ own k = 0) (hy : Rec w8 (fun k => c ≤ k ∧ k < d) T c Y x) (hr : w8.ownsRow B 49 2 v8 (es.length + 1) (prow (es ++ [(X, Y)]))) (ho : v8.ownBlock = psv.ownBlock ∨ ∃ k, v8.ownBlock = some k ∧ d ≤ k) :
    ∃ own', Rig (w8.setCell ⟨B, 0, none⟩ v8) own' B w.heap.size v8 nb ni ne nl nt (es ++ [(X, Y)]) (xs ++ [x]) (xs ++ [x]) := by
  have hz := hf.size
  have hzs : (w8.setCell ⟨B, 0, none⟩ v8).heap.size = w8.heap.size := by simp
  have hB1 : own B = 1 := p.bk.2.1
  have hBw := (p.lo B (by rw [hB1]; decide)).2
  obtain ⟨own', hown⟩ : ∃ f : Nat → Nat, f = fun k => if a ≤ k ∧ k < b then 3 + 2 * es.length else if c ≤ k ∧ k < d then 4 + 2 * es.length else if v8.ownBlock = some k then 2 else own k := ⟨_, rfl⟩
  have hold : ∀ k, k < w.heap.size → own' k = own k := fun k hk => by
    rw [hown]
    simp only
    rw [if_neg (by omega), if_neg (by omega)]
    split
    · rename_i e
      rcases ho with ho | ⟨q, ho, hq⟩
      · rw [ho] at e; exact (p.ro k e).symm
      · rw [ho] at e; simp only [Option.some.injEq] at e; omega
    · rfl
  have hnew : ∀ k, own k = 0 → w.heap.size ≤ k → own' k = if a ≤ k ∧ k < b then 3 + 2 * es.length else if c ≤ k ∧ k < d then 4 + 2 * es.length else if v8.ownBlock = some k then 2 else 0 := fun k h0 _ => by
    rw [hown]
    simp only
    rw [h0]
  have hown0 : ∀ k, w.heap.size ≤ k → own k = 0 := fun k hk => by
    by_cases h : own k = 0
    · exact h
    · have := (p.lo k h).2; omega
  have hlo : ∀ k, own' k ≠ 0 → B ≤ k ∧ k < w8.heap.size := fun k e => by
    by_cases hk : k < w.heap.size
    · rw [hold k hk] at e
      exact ⟨(p.lo k e).1, by omega⟩
    · refine ⟨by omega, ?_⟩
      rw [hnew k (hown0 k (by omega)) (by omega)] at e
      split at e
      · omega
      · split at e
        · omega
        · split at e
          · rename_i e'
            exact (ownsRow_lt hr e').2
          · exact absurd rfl e
  have hkeep : ∀ k, k < w.heap.size → own k ≠ 2 → w8.heap[k]? = w.heap[k]? := fun k hk e => hf.block k hk fun e' => e (p.ro k e')
  have hset : ∀ k, k ≠ B → (w8.setCell ⟨B, 0, none⟩ v8).heap[k]? = w8.heap[k]? := fun k e => heap_setCell_other w8 ⟨B, 0, none⟩ k _ e
  have hbk : BookAt w8 (fun k => own k = 1) B B psv nb ni ne nl nt := p.bk.same (fun k e => hkeep k (p.lo k (by rw [e]; decide)).2 (by rw [e]; decide)) hz
  have hv8B : v8.ownBlock ≠ some B := by
    obtain ⟨_, _, vb, vi, ve, vl, vt, hb, _⟩ := hbk
    exact ownsRow_ne_blk hr hb (by decide)
  have hold1 : ∀ q, q ≠ 0 → ∀ k, own k = q → k < w.heap.size ∧ own' k = q := fun q hq k e => by
    have := (p.lo k (by rw [e]; exact hq)).2
    exact ⟨this, by rw [hold k this]; exact e⟩
  refine ⟨own', fun k e => by rw [hzs]; exact hlo k e, by rw [hzs]; exact hz, ?_, ?_, fun k e => ?_, by simp [p.lx], by simp [p.ly], fun i e y he hy' => ?_, fun i e y he hy' => ?_⟩
  · refine (hbk.ps v8).wide (fun k e => (hold1 1 (by decide) k e).2) fun k e => ?_
    have := hlo k (by rw [e]; decide)
    exact ⟨this.1, by rw [hzs]; exact this.2⟩
  · rw [List.length_append]
    exact ownsRow_same hr fun k e => hset k fun e' => hv8B (e' ▸ e)
  · by_cases hk : k < w.heap.size
    · rw [hold k hk]
      rcases ho with ho | ⟨q, ho, hq⟩
      · rw [ho] at e; exact p.ro k e
      · rw [ho] at e; simp only [Option.some.injEq] at e; omega
    · rw [hnew k (hown0 k (by omega)) (by omega)]
      have hkd : d ≤ k := by
        rcases ho with ho | ⟨q, ho, hq⟩
        · rw [ho] at e
          have := (p.lo k (by rw [p.ro k e]; decide)).2
          omega
        · rw [ho] at e; simp only [Option.some.injEq] at e; omega
      rw [if_neg (by omega), if_neg (by omega), if_pos e]
  · by_cases hi : i < es.length
    · rw [List.getElem?_append_left hi] at he
      rw [List.getElem?_append_left (by rw [p.lx]; exact hi)] at hy'
      obtain ⟨b', hb', hxx⟩ := p.px i e y he hy'
      refine ⟨b', by rw [hzs]; omega, (hxx.same fun k e => ?_).mono fun k _ e => (hold1 _ (by omega) k e).2⟩
      rw [hset k fun e' => by rw [e', hB1] at e; omega]
      exact hkeep k (hold1 _ (by omega) k e).1 (by rw [e]; omega)
    · have hil := lt_of_get he
      rw [List.length_append] at hil
      simp only [List.length_cons, List.length_nil] at hil
      have hie : i = es.length := by omega
      subst hie
      rw [List.getElem?_append_right (Nat.le_refl _), Nat.sub_self] at he
      rw [List.getElem?_append_right (by rw [p.lx]; exact Nat.le_refl _), p.lx, Nat.sub_self] at hy'
      simp only [List.getElem?_cons_zero, Option.some.injEq] at he hy'
      subst he
      subst hy'
      refine ⟨a, by rw [hzs]; omega, (hx.same fun k e => hset k (by omega)).mono fun k _ e => ?_⟩
      rw [hnew k (hown0 k (by omega)) (by omega), if_pos e]
  · by_cases hi : i < es.length
    · rw [List.getElem?_append_left hi] at he
      rw [List.getElem?_append_left (by rw [p.ly]; exact hi)] at hy'
      obtain ⟨b', T', hb', hT', hyy⟩ := p.py i e y he hy'
      have hTT : ∀ k, T' k → k < w.heap.size ∧ own' k = 0 := fun k e => by
        have h1 := hT' k e
        have h2 := p.qs
        exact ⟨by omega, by rw [hold k (by omega)]; exact h1.1⟩
      refine ⟨b', T', by rw [hzs]; omega, fun k e => ⟨(hTT k e).2, (hTT k e).1⟩, (hyy.same (fun k e => ?_) (by rw [hzs]; exact hz)).mono (fun k _ e => (hold1 _ (by omega) k e).2) fun k e e' => by rw [(hTT k e).2] at e'; omega⟩
      rcases e with e | e
      · rw [hset k fun e' => by rw [e', hB1] at e; omega]
        exact hkeep k (hold1 _ (by omega) k e).1 (by rw [e]; omega)
      · rw [hset k fun e' => by rw [e'] at e; rw [(hT' B e).1] at hB1; omega]
        exact hkeep k (hTT k e).1 (by rw [(hT' k e).1]; decide)
    · have hil := lt_of_get he
      rw [List.length_append] at hil
      simp only [List.length_cons, List.length_nil] at hil
      have hie : i = es.length := by omega
      subst hie
      rw [List.getElem?_append_right (Nat.le_refl _), Nat.sub_self] at he
      rw [List.getElem?_append_right (by rw [p.ly]; exact Nat.le_refl _), p.ly, Nat.sub_self] at hy'
      simp only [List.getElem?_cons_zero, Option.some.injEq] at he hy'
      subst he
      subst hy'
      refine ⟨c, T, by rw [hzs]; omega, fun k e => ⟨by rw [hold k (hT k e).1]; exact (hT k e).2, (hT k e).1⟩, (hy.same (fun k e => hset k fun e' => ?_) (by rw [hzs]; exact Nat.le_refl _)).mono (fun k _ e => ?_) fun k e e' => ?_⟩
      · subst e'
        rcases e with e | e
        · omega
        · rw [(hT k e).2] at hB1; omega
      · rw [hnew k (hown0 k (by omega)) (by omega), if_neg (by omega), if_pos e]
      · rw [hold k (hT k e).1, (hT k e).2] at e'; omega

theorem Rig.raise {w : World} {own : Nat → Nat} {B Q Q' : Nat} {psv : Value} {nb ni ne nl nt : Nat} {es : List (Nat × Nat)} {xs ys : List Exs} (p : Rig w own B Q psv nb ni ne nl nt es xs ys) (h1 : Q ≤ Q') (h2 : Q' ≤ w.heap.size) : Rig w own B Q' psv nb ni ne nl nt es xs ys :=
  ⟨p.lo, h2, p.bk, p.row, p.ro, p.lx, p.ly, p.px, fun i e y he hy => by
    obtain ⟨b, T, hb, hT, hr⟩ := p.py i e y he hy
    exact ⟨b, T, hb, fun k e => ⟨(hT k e).1, Nat.lt_of_lt_of_le (hT k e).2 h1⟩, hr⟩⟩

set_option maxRecDepth 100000 in
set_option maxHeartbeats 3200000 in
theorem made_true (own : Nat → Nat) (B Q : Nat) (Tq : Nat → Prop) (psv : Value) (nb ni ne nl nt : Nat) (es : List (Nat × Nat)) (xs : List Exs) (v : Value) (o : Stp) (w : World) (p : Rig w own B Q psv nb ni ne nl nt es xs xs) (hB : B ≤ w.heap.size) (hv : OpQ w Tq v o) (hTq : ∀ k, Tq k → k < w.heap.size ∧ own k = 0) (hok : StpOk o) (hel : es.length ≤ 10000000) :
    Calls Tryz.prog 14 #[.pointer (some ⟨B, 0, none⟩), v] w fun r w' => r = .returned (.bool true) ∧ ∃ own' psv' es' xs', Rig w' own' B w.heap.size psv' nb ni ne nl nt es' xs' xs' ∧ es'.length ≤ es.length + 1 ∧ (∀ x ∈ xs', x ∈ xs ∨ ExIn x 0) ∧ Below B w w' := by
  obtain ⟨t, rfl, ht⟩ := hv
  obtain ⟨kind, a, b, c, s, cfg⟩ := o
  obtain ⟨x1, x2, x3, x4, x5, ts⟩ := cfg
  obtain ⟨hs, hl, hl2⟩ := hok
  simp only at ht hs hl hl2 ⊢
  have HP := hide p
  have HT := hide ht
  obtain ⟨ta, tc, rfl⟩ := ht.slice
  have HL2 := hide hl2
  have HTQ := hide hTq
  have HCF : Hid (Cf w w.heap.size (.agg #[.int .i64 x1, .int .i64 x2, .int .i64 x3, .int .i64 x4, .int .i64 x5, .slice ta ts.length tc]) ⟨x1, x2, x3, x4, x5, ts⟩) := ⟨_, rfl, ht.tasks fun k e => (hTq k e).1⟩
  have hBw : B < w.heap.size := (p.lo B (by rw [p.bk.2.1]; decide)).2
  clear p ht hl2 hTq
  go_enter Tryz.func14, Tryz.ntmps14
  go_wp2_with fail
  have HB1 : Hid (Below w.heap.size w (w.alloc (.cells #[.int .i64 kind, .int .i64 a, .int .i64 b, .int .i64 c, .string s, .int .i64 x1, .int .i64 x2, .int .i64 x3, .int .i64 x4, .int .i64 x5, .slice ta ts.length tc] 43))) := (Below.refl _ _).alloc (Nat.le_refl _) _
  refine (lentConfig_any w.heap.size _ ⟨x1, x2, x3, x4, x5, ts⟩ _ (HCF.out.later HB1.out (by omega)) (by simp) hl HL2.out).mono ?_
  rintro e w1 ⟨T, lv, Ls, rfl, hla, hTl, q1⟩
  obtain ⟨lva, lvc, hlv⟩ := owns_slice hla.lims
  subst hlv
  have hzo : (w.alloc (.cells #[.int .i64 kind, .int .i64 a, .int .i64 b, .int .i64 c, .string s, .int .i64 x1, .int .i64 x2, .int .i64 x3, .int .i64 x4, .int .i64 x5, .slice ta ts.length tc] 43)).heap.size = w.heap.size + 1 := by simp
  rw [hzo] at hTl q1 hla
  have HO1 := hide ((Blk.new w #[.int .i64 kind, .int .i64 a, .int .i64 b, .int .i64 c, .string s, .int .i64 x1, .int .i64 x2, .int .i64 x3, .int .i64 x4, .int .i64 x5, .slice ta ts.length tc] 43).later q1 (by simp))
  have HBW1 : Hid (Below w.heap.size w w1) := HB1.out.trans (q1.mono (by omega))
  have hz1 := q1.size
  have HLA1 := hide hla
  have hTw := hla.row.lt
  have HLs : Hid (∀ L ∈ Ls, T < L ∧ L < w1.heap.size) := hla.lt
  clear hla q1
  simp only [] at *
  have HB2 : Hid (Below w1.heap.size w1 ((w1.alloc (.cells #[.int .i64 x1, .int .i64 x2, .int .i64 x3, .int .i64 x4, .int .i64 x5, .slice (some ⟨T, 0, none⟩) ts.length (ts.length + 8)] 40)).alloc (.cells #[.slice (some ⟨T, 0, none⟩) (ts.length + 8) (ts.length + 8), .slice lva Ls.length lvc] 71))) := ((Below.refl _ _).alloc (Nat.le_refl _) _).alloc (by simp) _
  have hz2 : ((w1.alloc (.cells #[.int .i64 x1, .int .i64 x2, .int .i64 x3, .int .i64 x4, .int .i64 x5, .slice (some ⟨T, 0, none⟩) ts.length (ts.length + 8)] 40)).alloc (.cells #[.slice (some ⟨T, 0, none⟩) (ts.length + 8) (ts.length + 8), .slice lva Ls.length lvc] 71)).heap.size = w1.heap.size + 2 := by simp
  have HLA2 := hide (HLA1.out.below HB2.out)
  have HCFL : Hid (Cf ((w1.alloc (.cells #[.int .i64 x1, .int .i64 x2, .int .i64 x3, .int .i64 x4, .int .i64 x5, .slice (some ⟨T, 0, none⟩) ts.length (ts.length + 8)] 40)).alloc (.cells #[.slice (some ⟨T, 0, none⟩) (ts.length + 8) (ts.length + 8), .slice lva Ls.length lvc] 71)) ((w1.alloc (.cells #[.int .i64 x1, .int .i64 x2, .int .i64 x3, .int .i64 x4, .int .i64 x5, .slice (some ⟨T, 0, none⟩) ts.length (ts.length + 8)] 40)).alloc (.cells #[.slice (some ⟨T, 0, none⟩) (ts.length + 8) (ts.length + 8), .slice lva Ls.length lvc] 71)).heap.size (.agg #[.int .i64 x1, .int .i64 x2, .int .i64 x3, .int .i64 x4, .int .i64 x5, .slice (some ⟨T, 0, none⟩) ts.length (ts.length + 8)]) ⟨x1, x2, x3, x4, x5, ts⟩) := ⟨_, rfl, HLA2.out.tasks⟩
  have HO2 := hide (HO1.out.later HB2.out (by omega))
  have HLB : Hid (Blk ((w1.alloc (.cells #[.int .i64 x1, .int .i64 x2, .int .i64 x3, .int .i64 x4, .int .i64 x5, .slice (some ⟨T, 0, none⟩) ts.length (ts.length + 8)] 40)).alloc (.cells #[.slice (some ⟨T, 0, none⟩) (ts.length + 8) (ts.length + 8), .slice lva Ls.length lvc] 71)) (w1.heap.size + 1) #[.slice (some ⟨T, 0, none⟩) (ts.length + 8) (ts.length + 8), .slice lva Ls.length lvc] 71) := by
    have := Blk.new (w1.alloc (.cells #[.int .i64 x1, .int .i64 x2, .int .i64 x3, .int .i64 x4, .int .i64 x5, .slice (some ⟨T, 0, none⟩) ts.length (ts.length + 8)] 40)) #[.slice (some ⟨T, 0, none⟩) (ts.length + 8) (ts.length + 8), .slice lva Ls.length lvc] 71
    simpa [Hid] using this
  go_wp2_with fail
  generalize hW3 : ((w1.alloc (.cells #[.int .i64 x1, .int .i64 x2, .int .i64 x3, .int .i64 x4, .int .i64 x5, .slice (some ⟨T, 0, none⟩) ts.length (ts.length + 8)] 40)).alloc (.cells #[.slice (some ⟨T, 0, none⟩) (ts.length + 8) (ts.length + 8), .slice lva Ls.length lvc] 71)) = W3 at *
  clear hW3
  by_cases hok : cfgOk ⟨x1, x2, x3, x4, x5, ts⟩ = true
  · refine (new_yes _ _ ⟨x1, x2, x3, x4, x5, ts⟩ W3 HCFL.out (Nat.le_refl _) hok).mono ?_
    rintro e w4 ⟨X, rfl, xc4, q4⟩
    have HX4 := hide xc4
    have HO4 := hide (HO2.out.later q4 (by omega))
    have HLB4 := hide (HLB.out.later q4 (by omega))
    have HLA4 := hide (HLA2.out.below q4)
    have HBW4 : Hid (Below w.heap.size w w4) := (HBW1.out.trans (HB2.out.mono (by omega))).trans (q4.mono (by omega))
    have hz4 := q4.size
    have hz3 : w1.heap.size + 2 = W3.heap.size := hz2.symm
    have HZ3 := hide hz3
    have m0 : w4.cell? ⟨w1.heap.size + 1, 0, none⟩ = some (.slice (some ⟨T, 0, none⟩) (ts.length + 8) (ts.length + 8)) := HLB4.out.cell 0
    have m1 : w4.cell? ⟨w1.heap.size + 1, 1, none⟩ = some (.slice lva Ls.length lvc) := HLB4.out.cell 1
    have k5 : w4.cell? ⟨w.heap.size, 5, none⟩ = some (.int .i64 x1) := HO4.out.cell 5
    have k6 : w4.cell? ⟨w.heap.size, 6, none⟩ = some (.int .i64 x2) := HO4.out.cell 6
    have k7 : w4.cell? ⟨w.heap.size, 7, none⟩ = some (.int .i64 x3) := HO4.out.cell 7
    have k8 : w4.cell? ⟨w.heap.size, 8, none⟩ = some (.int .i64 x4) := HO4.out.cell 8
    have k9 : w4.cell? ⟨w.heap.size, 9, none⟩ = some (.int .i64 x5) := HO4.out.cell 9
    have k10 : w4.cell? ⟨w.heap.size, 10, none⟩ = some (.slice ta ts.length tc) := HO4.out.cell 10
    have hlo4 := HO4.out.lt
    have hll4 := HLB4.out.lt
    clear q4 xc4 hz2 hz3
    go_wp2_with fail
    refine (backConfig_true w.heap.size (w.heap.size + 1) T (.agg #[.int .i64 x1, .int .i64 x2, .int .i64 x3, .int .i64 x4, .int .i64 x5, .slice ta ts.length tc]) (.slice lva Ls.length lvc) ⟨x1, x2, x3, x4, x5, ts⟩ Ls w4 (HCF.out.later HBW4.out (by omega)) (by omega) (by omega) HLA4.out hl HL2.out).mono ?_
    rintro e w5 ⟨rfl, hf5⟩
    have HF5 := hide hf5
    have hz5 := hf5.size
    have hz3' := HZ3.out
    have HBW5 : Hid (Below w.heap.size w w5) := HBW4.out.trans (hf5.below (by omega) (by rintro k (rfl | hk); omega; have := (HLs.out k hk).1; omega))
    have HO5 : Hid (Blk w5 w.heap.size #[.int .i64 kind, .int .i64 a, .int .i64 b, .int .i64 c, .string s, .int .i64 x1, .int .i64 x2, .int .i64 x3, .int .i64 x4, .int .i64 x5, .slice ta ts.length tc] 43) := (hf5.block _ (by omega) (by rintro (h | h); omega; have := (HLs.out _ h).1; omega)).trans HO4.out
    have HX5 : Hid (Xec w5 (fun k => W3.heap.size ≤ k ∧ k < w4.heap.size) W3.heap.size X (exNew ⟨x1, x2, x3, x4, x5, ts⟩)) := (HX4.out.mono fun k hk e => ⟨e, hk⟩).same fun k e => hf5.block k e.2 (by rintro (h | h); omega; have := (HLs.out k h).2; omega)
    have n5 : w5.cell? ⟨w.heap.size, 5, none⟩ = some (.int .i64 x1) := HO5.out.cell 5
    have n6 : w5.cell? ⟨w.heap.size, 6, none⟩ = some (.int .i64 x2) := HO5.out.cell 6
    have n7 : w5.cell? ⟨w.heap.size, 7, none⟩ = some (.int .i64 x3) := HO5.out.cell 7
    have n8 : w5.cell? ⟨w.heap.size, 8, none⟩ = some (.int .i64 x4) := HO5.out.cell 8
    have n9 : w5.cell? ⟨w.heap.size, 9, none⟩ = some (.int .i64 x5) := HO5.out.cell 9
    have n10 : w5.cell? ⟨w.heap.size, 10, none⟩ = some (.slice ta ts.length tc) := HO5.out.cell 10
    have hlo5 := HO5.out.lt
    clear hf5 m0 m1 k5 k6 k7 k8 k9 k10 hz3'
    go_wp2_with fail
    refine (rNew_yes (.slice ta ts.length tc) Tq ⟨x1, x2, x3, x4, x5, ts⟩ w5 (HT.out.same fun k e => HBW5.out.block k (HTQ.out k e).1) (fun k e => by have := (HTQ.out k e).1; have := HBW5.out.size; omega) hok).mono ?_
    rintro e w6 ⟨Y, rfl, rc6, q6⟩
    have hz6 := q6.size
    have HBW6 : Hid (Below w.heap.size w w6) := HBW5.out.trans (q6.mono (by omega))
    have HP6 := hide (HP.out.below HBW6.out)
    have HX6 : Hid (Xec w6 (fun k => W3.heap.size ≤ k ∧ k < w4.heap.size) W3.heap.size X (exNew ⟨x1, x2, x3, x4, x5, ts⟩)) := HX5.out.same fun k e => q6.block k (by omega)
    have HY6 : Hid (Rec w6 (fun k => w5.heap.size ≤ k ∧ k < w6.heap.size) Tq w5.heap.size Y (exNew ⟨x1, x2, x3, x4, x5, ts⟩)) := rc6.mono (fun k hk e => ⟨e, hk⟩) fun k e e' => by have := (HTQ.out k e).1; have := HBW5.out.size; omega
    obtain ⟨pa, pc, hpv⟩ := ownsRow_slice HP6.out.row
    have hb7 : Below w6.heap.size w6 (w6.alloc (.cells #[.pointer (some ⟨X, 0, none⟩), .pointer (some ⟨Y, 0, none⟩)] 49)) := (Below.refl _ _).alloc (Nat.le_refl _) _
    have HP7 := hide (HP6.out.below hb7)
    have HROW : Hid ((w6.alloc (.cells #[.pointer (some ⟨X, 0, none⟩), .pointer (some ⟨Y, 0, none⟩)] 49)).ownsRow B 49 2 (.slice pa es.length pc) es.length (prow es)) := by
      rw [Hid, ← hpv]
      exact HP7.out.row
    have HWN := hide (win_new w6 0 49 2 1 [.pointer (some ⟨X, 0, none⟩), .pointer (some ⟨Y, 0, none⟩)] rfl (by unfold maxLen; omega) (Nat.zero_le _))
    have HONE : Hid (∀ u ∈ [Value.pointer (some ⟨X, 0, none⟩), Value.pointer (some ⟨Y, 0, none⟩)], u.oneCell' = true) := by
      intro u hu
      simp at hu
      rcases hu with rfl | rfl <;> rfl
    have hB6 : B < w6.heap.size := by have := HBW6.out.size; omega
    have HBB : Hid (∃ cs, Blk w6 B cs 36 ∧ cs[0]? = some (.slice pa es.length pc)) := by
      obtain ⟨_, _, vb, vi, ve, vl, vt, hb, _⟩ := HP6.out.bk
      exact ⟨_, hb, by rw [hpv]; rfl⟩
    obtain ⟨cs, hbb, hcs0⟩ := HBB.out
    have b0 : w6.cell? ⟨B, 0, none⟩ = some (.slice pa es.length pc) := (hbb.cell 0).trans hcs0
    have HBW : Hid (Blk (w6.alloc (.cells #[.pointer (some ⟨X, 0, none⟩), .pointer (some ⟨Y, 0, none⟩)] 49)) B cs 36) := hbb.alloc _
    have HNB : Hid (Value.ownBlock (.slice pa es.length pc) ≠ some B) := ownsRow_ne_blk HROW.out HBW.out (by decide)
    have HCS := hide hcs0
    have HB7 := hide hb7
    clear rc6 q6 n5 n6 n7 n8 n9 n10 hbb hcs0 hb7
    go_wp2_with (at_builtin; go_must (refine wpList_appWin rfl _ _ 27 49 (.agg #[.pointer none, .pointer none]) 2 16 rfl Tryz.underlying27 info_pair rfl (by decide) (by decide) B 0 (.slice pa es.length pc) (.slice (some ⟨w6.heap.size, 0, none⟩) 1 1) es.length 1 (prow es) [.pointer (some ⟨X, 0, none⟩), .pointer (some ⟨Y, 0, none⟩)] rfl HROW.out rfl HWN.out HONE.out (by omega) (by first | omega | (simp; omega)) ?_))
    intro v8 w8 e8 g8 o8
    obtain ⟨va8, vc8, hv8⟩ := ownsRow_slice e8
    have hz7 : (w6.alloc (.cells #[.pointer (some ⟨X, 0, none⟩), .pointer (some ⟨Y, 0, none⟩)] 49)).heap.size = w6.heap.size + 1 := by simp
    have hg8 := g8.size
    have hf8 : Fr (fun k => psv.ownBlock = some k) w w8 := ((Fr.of_below HBW6.out).trans (Fr.of_below (X := fun k => psv.ownBlock = some k) HB7.out) fun _ _ e => e).trans (Fr.of_grown (X := fun k => psv.ownBlock = some k) g8 fun k e _ => by rw [hpv]; exact e) fun _ _ e => e
    have hpl : ∀ k, psv.ownBlock = some k → k < w.heap.size := fun k e => (HP.out.lo k (by rw [HP.out.ro k e]; decide)).2
    have hkk : ∀ k, w.heap.size ≤ k → k < w6.heap.size → w8.heap[k]? = w6.heap[k]? := fun k h1 h2 => by
      rw [g8.block k (by omega) (fun e => by have := hpl k (by rw [hpv]; exact e.symm); omega)]
      exact HB7.out.block k h2
    have hk1 : ∀ k, k < w.heap.size → own k = 0 → w8.heap[k]? = w6.heap[k]? := fun k h1 h2 => by
      rw [g8.block k (by omega) (fun e => by
        have := HP.out.ro k (by rw [hpv]; exact e.symm)
        rw [h2] at this; omega)]
      exact HB7.out.block k (by omega)
    have hzw : w.heap.size ≤ W3.heap.size := by have := HBW1.out.size; have := HB2.out.size; omega
    obtain ⟨own', hrig⟩ := HP.out.more (v8 := v8) hB (a := W3.heap.size) (b := w4.heap.size) (c := w5.heap.size) (d := w6.heap.size) ⟨hzw, by omega, by omega, by omega, by omega⟩ hf8 (HX6.out.same fun k e => hkk k (by omega) (by omega)) HTQ.out (HY6.out.same (fun k e => by
      rcases e with e | e
      · exact hkk k (by omega) e.2
      · exact hk1 k (HTQ.out k e).1 (HTQ.out k e).2) (by omega)) (by rw [prow_append]; exact e8) (by
      rcases o8 with o8 | o8
      · exact .inl (by rw [o8, hpv])
      · exact .inr ⟨_, o8, by omega⟩)
    have HRIG := hide hrig
    have hbb8 : Blk w8 B cs 36 := (g8.block B (by omega) (fun e => HNB.out e.symm)).trans HBW.out
    have d0 : w8.cell? ⟨B, 0, none⟩ = some (.slice pa es.length pc) := (hbb8.cell 0).trans HCS.out
    have d0f := hbb8.free 0
    have hB8 : B < w8.heap.size := by omega
    have HF8 := hide hf8
    have HPL := hide hpl
    have HROB : Hid (∀ k, psv.ownBlock = some k → B ≤ k) := fun k e => (HP.out.lo k (by rw [HP.out.ro k e]; decide)).1
    clear e8 g8 o8 hf8 hrig hbb8 hkk hk1 hpl hpv
    subst hv8
    go_wp2_with fail
    go_ret
    exact ⟨rfl, own', _, es ++ [(X, Y)], xs ++ [exNew ⟨x1, x2, x3, x4, x5, ts⟩], HRIG.out, by simp, fun x hx => (List.mem_append.1 hx).imp id fun hx => by
      simp only [List.mem_cons, List.not_mem_nil, or_false] at hx
      subst hx
      exact exNew_in hok, (HF8.out.below hB HROB.out).setCell (Nat.le_refl _) _⟩
  · have hok : cfgOk ⟨x1, x2, x3, x4, x5, ts⟩ = false := by simpa using hok
    refine (new_no _ _ ⟨x1, x2, x3, x4, x5, ts⟩ W3 HCFL.out (Nat.le_refl _) hok).mono ?_
    rintro e w4 ⟨rfl, q4⟩
    have HO4 := hide (HO2.out.later q4 (by omega))
    have HLB4 := hide (HLB.out.later q4 (by omega))
    have HLA4 := hide (HLA2.out.below q4)
    have HBW4 : Hid (Below w.heap.size w w4) := (HBW1.out.trans (HB2.out.mono (by omega))).trans (q4.mono (by omega))
    have hz4 := q4.size
    have hz3 : w1.heap.size + 2 = W3.heap.size := hz2.symm
    have HZ3 := hide hz3
    have m0 : w4.cell? ⟨w1.heap.size + 1, 0, none⟩ = some (.slice (some ⟨T, 0, none⟩) (ts.length + 8) (ts.length + 8)) := HLB4.out.cell 0
    have m1 : w4.cell? ⟨w1.heap.size + 1, 1, none⟩ = some (.slice lva Ls.length lvc) := HLB4.out.cell 1
    have k5 : w4.cell? ⟨w.heap.size, 5, none⟩ = some (.int .i64 x1) := HO4.out.cell 5
    have k6 : w4.cell? ⟨w.heap.size, 6, none⟩ = some (.int .i64 x2) := HO4.out.cell 6
    have k7 : w4.cell? ⟨w.heap.size, 7, none⟩ = some (.int .i64 x3) := HO4.out.cell 7
    have k8 : w4.cell? ⟨w.heap.size, 8, none⟩ = some (.int .i64 x4) := HO4.out.cell 8
    have k9 : w4.cell? ⟨w.heap.size, 9, none⟩ = some (.int .i64 x5) := HO4.out.cell 9
    have k10 : w4.cell? ⟨w.heap.size, 10, none⟩ = some (.slice ta ts.length tc) := HO4.out.cell 10
    have hlo4 := HO4.out.lt
    have hll4 := HLB4.out.lt
    clear q4 hz2 hz3
    go_wp2_with fail
    refine (backConfig_true w.heap.size (w.heap.size + 1) T (.agg #[.int .i64 x1, .int .i64 x2, .int .i64 x3, .int .i64 x4, .int .i64 x5, .slice ta ts.length tc]) (.slice lva Ls.length lvc) ⟨x1, x2, x3, x4, x5, ts⟩ Ls w4 (HCF.out.later HBW4.out (by omega)) (by omega) (by omega) HLA4.out hl HL2.out).mono ?_
    rintro e w5 ⟨rfl, hf5⟩
    have HF5 := hide hf5
    have hz5 := hf5.size
    have hz3' := HZ3.out
    have HBW5 : Hid (Below w.heap.size w w5) := HBW4.out.trans (hf5.below (by omega) (by rintro k (rfl | hk); omega; have := (HLs.out k hk).1; omega))
    have HO5 : Hid (Blk w5 w.heap.size #[.int .i64 kind, .int .i64 a, .int .i64 b, .int .i64 c, .string s, .int .i64 x1, .int .i64 x2, .int .i64 x3, .int .i64 x4, .int .i64 x5, .slice ta ts.length tc] 43) := (hf5.block _ (by omega) (by rintro (h | h); omega; have := (HLs.out _ h).1; omega)).trans HO4.out
    have n5 : w5.cell? ⟨w.heap.size, 5, none⟩ = some (.int .i64 x1) := HO5.out.cell 5
    have n6 : w5.cell? ⟨w.heap.size, 6, none⟩ = some (.int .i64 x2) := HO5.out.cell 6
    have n7 : w5.cell? ⟨w.heap.size, 7, none⟩ = some (.int .i64 x3) := HO5.out.cell 7
    have n8 : w5.cell? ⟨w.heap.size, 8, none⟩ = some (.int .i64 x4) := HO5.out.cell 8
    have n9 : w5.cell? ⟨w.heap.size, 9, none⟩ = some (.int .i64 x5) := HO5.out.cell 9
    have n10 : w5.cell? ⟨w.heap.size, 10, none⟩ = some (.slice ta ts.length tc) := HO5.out.cell 10
    have hlo5 := HO5.out.lt
    clear hf5 m0 m1 k5 k6 k7 k8 k9 k10 hz3'
    go_wp2_with fail
    refine (rNew_no (.slice ta ts.length tc) w.heap.size ⟨x1, x2, x3, x4, x5, ts⟩ w5 ((HT.out.tasks fun k e => (HTQ.out k e).1).later HBW5.out (Nat.le_refl _)) HBW5.out.size hok).mono ?_
    rintro e w6 ⟨rfl, q6⟩
    have hz6 := q6.size
    have HBW6 : Hid (Below w.heap.size w w6) := HBW5.out.trans (q6.mono (by omega))
    clear q6 n5 n6 n7 n8 n9 n10
    go_wp2_with fail
    go_ret
    exact ⟨rfl, own, psv, es, xs, (HP.out.below HBW6.out).raise HP.out.qs HBW6.out.size, by omega, fun x hx => .inl hx, HBW6.out.mono hB⟩

end Go.Proofs.YthloffgebebijaaGreat
