/- RigD: the walk of tillerlaw's (*World).works. -/
import Derived.Test.YthloffgebebijaaGreatRigK
import Derived.Deep.DeepMust
namespace Go.Proofs.YthloffgebebijaaGreat
open Go.RowKit Go.MuLone

theorem set_self {α : Type} {l : List α} {i : Nat} {x : α} (h : l[i]? = some x) : l.set i x = l := by
  apply List.ext_getElem?
  intro j
  by_cases e : i = j
  · subst e
    rw [List.getElem?_set_self (lt_of_get h), h]
  · rw [List.getElem?_set_ne e]
theorem own_new {w : World} {own : Nat → Nat} {B Q : Nat} {psv : Value} {nb ni ne nl nt : Nat} {es : List (Nat × Nat)} {xs ys : List Exs} (p : Rig w own B Q psv nb ni ne nl nt es xs ys) {k : Nat} (hk : w.heap.size ≤ k) : own k = 0 := by
  by_cases h : own k = 0
  · exact h
  · have := (p.lo k h).2; omega
theorem LentB.same {w w' : World} {H : Nat} {v : Value} {s : ByteArray} (h : LentB w H v s) (hs : ∀ g, v.ownBlock = some g → w'.heap[g]? = w.heap[g]?) : LentB w' H v s :=
  h.imp id fun ⟨g, hv, hg, hk⟩ => ⟨g, hv, hg, (hs g (by rw [hv]; rfl)).trans hk⟩
theorem LentB.own {w : World} {H : Nat} {v : Value} {s : ByteArray} (h : LentB w H v s) {g : Nat} (hg : v.ownBlock = some g) : H ≤ g ∧ g < w.heap.size := by
  rcases h with ⟨rfl, _⟩ | ⟨g', rfl, h1, h2⟩
  · simp [Value.ownBlock] at hg
  · simp only [Value.ownBlock, Option.some.injEq] at hg
    subst hg
    exact ⟨h1, h2.lt⟩
theorem LentB.form {w : World} {H : Nat} {v : Value} {s : ByteArray} (h : LentB w H v s) : (∃ la lc, v = .slice la s.size lc) ∧ (sbytes s = [] ∨ ∃ g n c, v = .slice (some ⟨g, 0, none⟩) n c) := by
  rcases h with ⟨rfl, h0⟩ | ⟨g, rfl, _, _⟩
  · exact ⟨⟨none, 0, by rw [h0]⟩, .inl (List.eq_nil_of_length_eq_zero (by rw [sbytes_length, h0]))⟩
  · exact ⟨⟨_, _, rfl⟩, .inr ⟨g, _, _, rfl⟩⟩

theorem exRun_len (u : Int) : ∀ (f : Nat) {x : Exs} {N : Int}, ExIn x N → (exRun u f x).2.length ≤ 34 * f
  | 0, x, N, _ => by simp [exRun]
  | f + 1, x, N, h => by
    by_cases hc : x.clock < u ∧ x.clock < 3000
    · rw [exRun_step hc]
      obtain ⟨h1, _, h3⟩ := exRound_in h hc.2
      have := exRun_len u f h1
      simp only [List.length_append]
      omega
    · rw [exRun_stop hc]
      simp

set_option maxRecDepth 100000 in
set_option maxHeartbeats 3200000 in
theorem works5 (own : Nat → Nat) (B Q B0 : Nat) (psv : Value) (nb ni ne nl nt : Nat) (es : List (Nat × Nat)) (xs : List Exs) (i : Nat) (e : Nat × Nat) (x : Exs) (N : Int) (v : Value) (o : Stp) (w : World) (p : Rig w own B Q psv nb ni ne nl nt es xs xs) (hB : B ≤ w.heap.size) (hv : Op1 w B0 v o) (hok : StpOk o) (hin : In64 o.a ∧ In64 o.b ∧ In64 o.c) (he : es[i]? = some e) (hx : xs[i]? = some x) (hi : ExIn x N) (hN : N ≤ 700000000000000) (hk : o.kind = 5) :
    Calls Tryz.prog 15 #[.pointer (some ⟨B, 0, none⟩), v, .agg #[.pointer (some ⟨e.1, 0, none⟩), .pointer (some ⟨e.2, 0, none⟩)]] w fun r w' => r = .returned (.bool true) ∧ ∃ own' ne' x' N', Rig w' own' B Q psv nb ni ne' nl nt es (xs.set i x') (xs.set i x') ∧ ExIn x' N' ∧ N' ≤ N + 10000000 ∧ ne' ≤ ne + 1 ∧ Fr (fun k => own k ≠ 0) w w' := by
  obtain ⟨t, rfl, ht⟩ := hv
  obtain ⟨kind, a, b, c, s, cfg⟩ := o
  obtain ⟨x1, x2, x3, x4, x5, ts⟩ := cfg
  obtain ⟨hs, -, -⟩ := hok
  obtain ⟨hia, hib, hic⟩ := hin
  simp only at ht hs hia hib hic hk ⊢
  subst hk
  obtain ⟨ta, tc, rfl⟩ := ht.slice
  have HI := hide hi
  have HE := hide he
  have HX := hide hx
  have hck0 := hi.ck0
  have hck1 := hi.ck1
  have hb2 : Below w.heap.size w ((w.alloc (.cells #[.int .i64 5, .int .i64 a, .int .i64 b, .int .i64 c, .string s, .int .i64 x1, .int .i64 x2, .int .i64 x3, .int .i64 x4, .int .i64 x5, .slice ta ts.length tc] 43)).alloc (.cells #[.pointer (some ⟨e.1, 0, none⟩), .pointer (some ⟨e.2, 0, none⟩)] 49)) := ((Below.refl _ _).alloc (Nat.le_refl _) _).alloc (by simp) _
  have HP2 := hide (p.below hb2)
  have HB2 := hide hb2
  have HOP2 : Hid (Blk ((w.alloc (.cells #[.int .i64 5, .int .i64 a, .int .i64 b, .int .i64 c, .string s, .int .i64 x1, .int .i64 x2, .int .i64 x3, .int .i64 x4, .int .i64 x5, .slice ta ts.length tc] 43)).alloc (.cells #[.pointer (some ⟨e.1, 0, none⟩), .pointer (some ⟨e.2, 0, none⟩)] 49)) w.heap.size #[.int .i64 5, .int .i64 a, .int .i64 b, .int .i64 c, .string s, .int .i64 x1, .int .i64 x2, .int .i64 x3, .int .i64 x4, .int .i64 x5, .slice ta ts.length tc] 43) := (Blk.new w _ _).alloc _
  have HPR2 : Hid (Blk ((w.alloc (.cells #[.int .i64 5, .int .i64 a, .int .i64 b, .int .i64 c, .string s, .int .i64 x1, .int .i64 x2, .int .i64 x3, .int .i64 x4, .int .i64 x5, .slice ta ts.length tc] 43)).alloc (.cells #[.pointer (some ⟨e.1, 0, none⟩), .pointer (some ⟨e.2, 0, none⟩)] 49)) (w.heap.size + 1) #[.pointer (some ⟨e.1, 0, none⟩), .pointer (some ⟨e.2, 0, none⟩)] 49) := by
    have := Blk.new (w.alloc (.cells #[.int .i64 5, .int .i64 a, .int .i64 b, .int .i64 c, .string s, .int .i64 x1, .int .i64 x2, .int .i64 x3, .int .i64 x4, .int .i64 x5, .slice ta ts.length tc] 43)) #[.pointer (some ⟨e.1, 0, none⟩), .pointer (some ⟨e.2, 0, none⟩)] 49
    simpa [Hid] using this
  have HC := hide (HP2.out.cntY he hx hi)
  have HOWN : Hid (∀ k, w.heap.size ≤ k → own k = 0) := fun k hk => own_new p hk
  have hqs := p.qs
  have HLO : Hid (∀ k, own k ≠ 0 → B ≤ k) := fun k e => (p.lo k e).1
  clear p ht hi he hx hb2
  go_enter Tryz.func15, Tryz.ntmps15
  go_wp2_with fail
  refine HC.out.mono ?_
  generalize ((w.alloc (.cells #[.int .i64 5, .int .i64 a, .int .i64 b, .int .i64 c, .string s, .int .i64 x1, .int .i64 x2, .int .i64 x3, .int .i64 x4, .int .i64 x5, .slice ta ts.length tc] 43)).alloc (.cells #[.pointer (some ⟨e.1, 0, none⟩), .pointer (some ⟨e.2, 0, none⟩)] 49)) = W2 at *
  rintro r w3 ⟨rfl, b3⟩
  simp only [countsV]
  have hz2 := HB2.out.size
  have hz3 := b3.size
  have hb4 : Below w3.heap.size w3 (w3.alloc (.cells #[.int .i64 x.clock, .int .i64 x.ct.jobs, .int .i64 x.ct.done, .int .i64 x.jobs.length, .int .i64 x.ct.lost, .int .i64 x.ct.unknown, .int .i64 x.ct.bad, .int .i64 x.ct.spilled, .int .i64 (held x.lines)] 95)) := (Below.refl _ _).alloc (Nat.le_refl _) _
  have hb24 := b3.trans (hb4.mono hz3)
  have HP4 := hide (HP2.out.below hb24)
  have HB4 : Hid (Below w.heap.size w (w3.alloc (.cells #[.int .i64 x.clock, .int .i64 x.ct.jobs, .int .i64 x.ct.done, .int .i64 x.jobs.length, .int .i64 x.ct.lost, .int .i64 x.ct.unknown, .int .i64 x.ct.bad, .int .i64 x.ct.spilled, .int .i64 (held x.lines)] 95))) := HB2.out.trans (hb24.mono hz2)
  have HOP4 := hide (HOP2.out.later hb24 HOP2.out.lt)
  have HPR4 := hide (HPR2.out.later hb24 HPR2.out.lt)
  have HCT4 := hide (Blk.new w3 #[.int .i64 x.clock, .int .i64 x.ct.jobs, .int .i64 x.ct.done, .int .i64 x.jobs.length, .int .i64 x.ct.lost, .int .i64 x.ct.unknown, .int .i64 x.ct.bad, .int .i64 x.ct.spilled, .int .i64 (held x.lines)] 95)
  have hz4 : w3.heap.size < (w3.alloc (.cells #[.int .i64 x.clock, .int .i64 x.ct.jobs, .int .i64 x.ct.done, .int .i64 x.jobs.length, .int .i64 x.ct.lost, .int .i64 x.ct.unknown, .int .i64 x.ct.bad, .int .i64 x.ct.spilled, .int .i64 (held x.lines)] 95)).heap.size := by simp
  have r1 : w3.cell? ⟨w.heap.size, 1, none⟩ = some (.int .i64 a) := (HOP2.out.later b3 HOP2.out.lt).cell 1
  have r2 : w3.cell? ⟨w.heap.size, 2, none⟩ = some (.int .i64 b) := (HOP2.out.later b3 HOP2.out.lt).cell 2
  have r3 : w3.cell? ⟨w.heap.size, 3, none⟩ = some (.int .i64 c) := (HOP2.out.later b3 HOP2.out.lt).cell 3
  have r4 : w3.cell? ⟨w.heap.size, 4, none⟩ = some (.string s) := (HOP2.out.later b3 HOP2.out.lt).cell 4
  have r0 : w3.cell? ⟨w.heap.size, 0, none⟩ = some (.int .i64 5) := (HOP2.out.later b3 HOP2.out.lt).cell 0
  have hol : w.heap.size < w3.heap.size := (HOP2.out.later b3 HOP2.out.lt).lt
  have hpl : w.heap.size + 1 < w3.heap.size := (HPR2.out.later b3 HPR2.out.lt).lt
  clear b3 hb4 hb24 HC
  go_upto_region 12 with (fail)
  generalize (w3.alloc (.cells #[.int .i64 x.clock, .int .i64 x.ct.jobs, .int .i64 x.ct.done, .int .i64 x.jobs.length, .int .i64 x.ct.lost, .int .i64 x.ct.unknown, .int .i64 x.ct.bad, .int .i64 x.ct.spilled, .int .i64 (held x.lines)] 95)) = W4 at *
  have q1 : W4.cell? ⟨w.heap.size, 1, none⟩ = some (.int .i64 a) := HOP4.out.cell 1
  have q4 : W4.cell? ⟨w.heap.size, 4, none⟩ = some (.string s) := HOP4.out.cell 4
  have hol4 : w.heap.size < W4.heap.size := by omega
  have hpl4 : w.heap.size + 1 < W4.heap.size := by omega
  clear r0 r1 r2 r3 r4
  go_wp2_with fail
  refine (lent_any s _ _ (by omega)).mono ?_
  rintro r w5 ⟨lv, rfl, hlb, b5⟩
  obtain ⟨⟨la, lc, hlv⟩, hlf⟩ := hlb.form
  subst hlv
  have hz5 := b5.size
  have HP5 := hide (HP4.out.below b5)
  have HOP5 := hide (HOP4.out.later b5 hol4)
  have HPR5 := hide (HPR4.out.later b5 hpl4)
  have HB5 : Hid (Below w.heap.size w w5) := HB4.out.trans (b5.mono (by omega))
  have HLB5 := hide hlb
  have HLO5 : Hid (∀ g, Value.ownBlock (.slice la s.size lc) = some g → W4.heap.size ≤ g ∧ g < w5.heap.size) := fun g e => hlb.own e
  have hbyt : BytV w5 (fun k => own k ≠ 0) (.slice la s.size lc) (sbytes s) := hlb.rd.byt (Nat.le_refl _) (fun g e e' => e' (HOWN.out g (by have := HLO5.out g e; omega))) hlf
  have hsl := sbytes_length s
  have HFX := hide (HP5.out.feedX (by omega) HE.out HX.out HI.out (by omega) b (c) hbyt (by omega))
  have q2 : w5.cell? ⟨w.heap.size, 2, none⟩ = some (.int .i64 b) := HOP5.out.cell 2
  have u0 : w5.cell? ⟨w.heap.size + 1, 0, none⟩ = some (.pointer (some ⟨e.1, 0, none⟩)) := HPR5.out.cell 0
  have hol5 : w.heap.size < w5.heap.size := by omega
  have hpl5 : w.heap.size + 1 < w5.heap.size := by omega
  clear b5 hlb q1 q4 hlf hbyt
  generalize hEF : exFeed x b (c) (sbytes s) = EF at *
  have HEF := hide hEF
  have HINF : Hid (ExIn EF.1 (if EF.2 = 0 then N + (sbytes s).length else N)) := by
    have := exFeed_in (line := b) (t := c) (bs := sbytes s) HI.out (sbytes_all s)
    rw [hEF] at this
    exact this
  obtain ⟨x6, er⟩ := EF
  simp only at HFX HINF
  clear hEF
  go_wp2_with fail
  refine HFX.out.mono ?_
  rintro r w6 ⟨rfl, own6, p6, g6⟩
  have hz6 := g6.1.size
  have hk6 : ∀ k, k < w5.heap.size → own k = 0 → w6.heap[k]? = w5.heap[k]? := fun k hk e => g6.1.block k hk fun e' => e' e
  have HLB6 := hide (HLB5.out.same fun g e => hk6 g (HLO5.out g e).2 (HOWN.out g (by have := HLO5.out g e; omega)))
  have HOP6 : Hid (Blk w6 w.heap.size _ _) := (hk6 _ hol5 (HOWN.out _ (Nat.le_refl _))).trans HOP5.out
  have HPR6 : Hid (Blk w6 (w.heap.size + 1) _ _) := (hk6 _ hpl5 (HOWN.out _ (by omega))).trans HPR5.out
  have HP6 := hide p6
  have HB6 : Hid (Fr (fun k => own k ≠ 0) w w6) := (Fr.of_below HB5.out).trans g6.1 fun _ _ e => e
  have HO6 : Hid (∀ k, k < w5.heap.size → own6 k = own k) := g6.2
  have HBK := hide (back_true W4.heap.size _ s w6 HLB6.out (by omega))
  have v4 : w6.cell? ⟨w.heap.size, 4, none⟩ = some (.string s) := HOP6.out.cell 4
  have hol6 : w.heap.size < w6.heap.size := by omega
  have hpl6 : w.heap.size + 1 < w6.heap.size := by omega
  clear p6 g6 hk6 q2 u0 HFX
  go_wp2_with fail
  refine HBK.out.mono ?_
  rintro r w7 ⟨rfl, f7⟩
  have hz7 := f7.size
  have hnl : ∀ k, k < W4.heap.size → Value.ownBlock (.slice la s.size lc) ≠ some k := fun k hk e => by have := HLO5.out k e; omega
  have HP7 := hide (HP6.out.quiet f7 fun k e => ⟨by rw [HO6.out k (HLO5.out k e).2]; exact HOWN.out k (by have := HLO5.out k e; omega), by have := HLO5.out k e; omega⟩)
  have HOP7 : Hid (Blk w7 w.heap.size _ _) := (f7.block _ hol6 (hnl _ hol4)).trans HOP6.out
  have HPR7 : Hid (Blk w7 (w.heap.size + 1) _ _) := (f7.block _ hpl6 (hnl _ hpl4)).trans HPR6.out
  have HB7 : Hid (Fr (fun k => own k ≠ 0) w w7) := HB6.out.trans f7 fun k hk e => by have := HLO5.out k e; omega
  obtain ⟨cap8, w8, hcv, b8, rd8⟩ := conv_strR s w7
  have hz8 := b8.size
  have HP8 := hide (HP7.out.below b8)
  have HO7 : Hid (∀ k, w7.heap.size ≤ k → own6 k = 0) := fun k hk => own_new HP7.out hk
  have hbyt : BytV w8 (fun k => own6 k ≠ 0) (.slice (some ⟨w7.heap.size, 0, none⟩) s.size cap8) (sbytes s) := rd8.byt (Nat.le_refl _) (fun g e e' => by simp only [Value.ownBlock, Option.some.injEq] at e; exact e' (HO7.out g (by omega))) (.inr ⟨_, _, _, rfl⟩)
  have HFY := hide (HP8.out.feedY (by omega) HE.out HX.out HI.out (by omega) b (c) hbyt (by omega))
  rw [HEF.out] at HFY
  simp only at HFY
  have HB8 : Hid (Fr (fun k => own k ≠ 0) w w8) := HB7.out.then_below b8
  have y1 : w7.cell? ⟨w.heap.size + 1, 1, none⟩ = some (.pointer (some ⟨e.2, 0, none⟩)) := HPR7.out.cell 1
  have y2 : w7.cell? ⟨w.heap.size, 2, none⟩ = some (.int .i64 b) := HOP7.out.cell 2
  have y4 : w7.cell? ⟨w.heap.size, 4, none⟩ = some (.string s) := HOP7.out.cell 4
  have hol7 : w.heap.size < w7.heap.size := by omega
  have hpl7 : w.heap.size + 1 < w7.heap.size := by omega
  clear f7 b8 rd8 hbyt v4 HBK
  go_wp2_with fail
  refine HFY.out.mono ?_
  rintro r w9 ⟨rfl, own9, p9, g9⟩
  have HP9 := hide p9
  have HB9 : Hid (Fr (fun k => own k ≠ 0) w w9) := HB8.out.trans g9.1 fun k hk e => by rw [HO6.out k (by omega)] at e; exact e
  clear p9 g9 HFY
  go_wp2_with fail
  go_ret
  refine ⟨rfl, own9, ne, x6, _, HP9.out, HINF.out, ?_, by omega, HB9.out⟩
  split <;> omega

set_option maxRecDepth 100000 in
set_option maxHeartbeats 3200000 in
theorem works8 (own : Nat → Nat) (B Q B0 : Nat) (psv : Value) (nb ni ne nl nt : Nat) (es : List (Nat × Nat)) (xs : List Exs) (i : Nat) (e : Nat × Nat) (x : Exs) (N : Int) (v : Value) (o : Stp) (w : World) (p : Rig w own B Q psv nb ni ne nl nt es xs xs) (hB : B ≤ w.heap.size) (hv : Op1 w B0 v o) (hok : StpOk o) (hin : In64 o.a ∧ In64 o.b ∧ In64 o.c) (he : es[i]? = some e) (hx : xs[i]? = some x) (hi : ExIn x N) (hN : N ≤ 700000000000000) (hk : o.kind = 8) :
    Calls Tryz.prog 15 #[.pointer (some ⟨B, 0, none⟩), v, .agg #[.pointer (some ⟨e.1, 0, none⟩), .pointer (some ⟨e.2, 0, none⟩)]] w fun r w' => r = .returned (.bool true) ∧ ∃ own' ne' x' N', Rig w' own' B Q psv nb ni ne' nl nt es (xs.set i x') (xs.set i x') ∧ ExIn x' N' ∧ N' ≤ N + 10000000 ∧ ne' ≤ ne + 1 ∧ Fr (fun k => own k ≠ 0) w w' := by
  obtain ⟨t, rfl, ht⟩ := hv
  obtain ⟨kind, a, b, c, s, cfg⟩ := o
  obtain ⟨x1, x2, x3, x4, x5, ts⟩ := cfg
  obtain ⟨hs, -, -⟩ := hok
  obtain ⟨hia, hib, hic⟩ := hin
  simp only at ht hs hia hib hic hk ⊢
  subst hk
  obtain ⟨ta, tc, rfl⟩ := ht.slice
  have HI := hide hi
  have HE := hide he
  have HX := hide hx
  have hck0 := hi.ck0
  have hck1 := hi.ck1
  have hb2 : Below w.heap.size w ((w.alloc (.cells #[.int .i64 8, .int .i64 a, .int .i64 b, .int .i64 c, .string s, .int .i64 x1, .int .i64 x2, .int .i64 x3, .int .i64 x4, .int .i64 x5, .slice ta ts.length tc] 43)).alloc (.cells #[.pointer (some ⟨e.1, 0, none⟩), .pointer (some ⟨e.2, 0, none⟩)] 49)) := ((Below.refl _ _).alloc (Nat.le_refl _) _).alloc (by simp) _
  have HP2 := hide (p.below hb2)
  have HB2 := hide hb2
  have HOP2 : Hid (Blk ((w.alloc (.cells #[.int .i64 8, .int .i64 a, .int .i64 b, .int .i64 c, .string s, .int .i64 x1, .int .i64 x2, .int .i64 x3, .int .i64 x4, .int .i64 x5, .slice ta ts.length tc] 43)).alloc (.cells #[.pointer (some ⟨e.1, 0, none⟩), .pointer (some ⟨e.2, 0, none⟩)] 49)) w.heap.size #[.int .i64 8, .int .i64 a, .int .i64 b, .int .i64 c, .string s, .int .i64 x1, .int .i64 x2, .int .i64 x3, .int .i64 x4, .int .i64 x5, .slice ta ts.length tc] 43) := (Blk.new w _ _).alloc _
  have HPR2 : Hid (Blk ((w.alloc (.cells #[.int .i64 8, .int .i64 a, .int .i64 b, .int .i64 c, .string s, .int .i64 x1, .int .i64 x2, .int .i64 x3, .int .i64 x4, .int .i64 x5, .slice ta ts.length tc] 43)).alloc (.cells #[.pointer (some ⟨e.1, 0, none⟩), .pointer (some ⟨e.2, 0, none⟩)] 49)) (w.heap.size + 1) #[.pointer (some ⟨e.1, 0, none⟩), .pointer (some ⟨e.2, 0, none⟩)] 49) := by
    have := Blk.new (w.alloc (.cells #[.int .i64 8, .int .i64 a, .int .i64 b, .int .i64 c, .string s, .int .i64 x1, .int .i64 x2, .int .i64 x3, .int .i64 x4, .int .i64 x5, .slice ta ts.length tc] 43)) #[.pointer (some ⟨e.1, 0, none⟩), .pointer (some ⟨e.2, 0, none⟩)] 49
    simpa [Hid] using this
  have HC := hide (HP2.out.cntY he hx hi)
  have HOWN : Hid (∀ k, w.heap.size ≤ k → own k = 0) := fun k hk => own_new p hk
  have hqs := p.qs
  have HLO : Hid (∀ k, own k ≠ 0 → B ≤ k) := fun k e => (p.lo k e).1
  clear p ht hi he hx hb2
  go_enter Tryz.func15, Tryz.ntmps15
  go_wp2_with fail
  refine HC.out.mono ?_
  generalize ((w.alloc (.cells #[.int .i64 8, .int .i64 a, .int .i64 b, .int .i64 c, .string s, .int .i64 x1, .int .i64 x2, .int .i64 x3, .int .i64 x4, .int .i64 x5, .slice ta ts.length tc] 43)).alloc (.cells #[.pointer (some ⟨e.1, 0, none⟩), .pointer (some ⟨e.2, 0, none⟩)] 49)) = W2 at *
  rintro r w3 ⟨rfl, b3⟩
  simp only [countsV]
  have hz2 := HB2.out.size
  have hz3 := b3.size
  have hb4 : Below w3.heap.size w3 (w3.alloc (.cells #[.int .i64 x.clock, .int .i64 x.ct.jobs, .int .i64 x.ct.done, .int .i64 x.jobs.length, .int .i64 x.ct.lost, .int .i64 x.ct.unknown, .int .i64 x.ct.bad, .int .i64 x.ct.spilled, .int .i64 (held x.lines)] 95)) := (Below.refl _ _).alloc (Nat.le_refl _) _
  have hb24 := b3.trans (hb4.mono hz3)
  have HP4 := hide (HP2.out.below hb24)
  have HB4 : Hid (Below w.heap.size w (w3.alloc (.cells #[.int .i64 x.clock, .int .i64 x.ct.jobs, .int .i64 x.ct.done, .int .i64 x.jobs.length, .int .i64 x.ct.lost, .int .i64 x.ct.unknown, .int .i64 x.ct.bad, .int .i64 x.ct.spilled, .int .i64 (held x.lines)] 95))) := HB2.out.trans (hb24.mono hz2)
  have HOP4 := hide (HOP2.out.later hb24 HOP2.out.lt)
  have HPR4 := hide (HPR2.out.later hb24 HPR2.out.lt)
  have HCT4 := hide (Blk.new w3 #[.int .i64 x.clock, .int .i64 x.ct.jobs, .int .i64 x.ct.done, .int .i64 x.jobs.length, .int .i64 x.ct.lost, .int .i64 x.ct.unknown, .int .i64 x.ct.bad, .int .i64 x.ct.spilled, .int .i64 (held x.lines)] 95)
  have hz4 : w3.heap.size < (w3.alloc (.cells #[.int .i64 x.clock, .int .i64 x.ct.jobs, .int .i64 x.ct.done, .int .i64 x.jobs.length, .int .i64 x.ct.lost, .int .i64 x.ct.unknown, .int .i64 x.ct.bad, .int .i64 x.ct.spilled, .int .i64 (held x.lines)] 95)).heap.size := by simp
  have r1 : w3.cell? ⟨w.heap.size, 1, none⟩ = some (.int .i64 a) := (HOP2.out.later b3 HOP2.out.lt).cell 1
  have r2 : w3.cell? ⟨w.heap.size, 2, none⟩ = some (.int .i64 b) := (HOP2.out.later b3 HOP2.out.lt).cell 2
  have r3 : w3.cell? ⟨w.heap.size, 3, none⟩ = some (.int .i64 c) := (HOP2.out.later b3 HOP2.out.lt).cell 3
  have r4 : w3.cell? ⟨w.heap.size, 4, none⟩ = some (.string s) := (HOP2.out.later b3 HOP2.out.lt).cell 4
  have r0 : w3.cell? ⟨w.heap.size, 0, none⟩ = some (.int .i64 8) := (HOP2.out.later b3 HOP2.out.lt).cell 0
  have hol : w.heap.size < w3.heap.size := (HOP2.out.later b3 HOP2.out.lt).lt
  have hpl : w.heap.size + 1 < w3.heap.size := (HPR2.out.later b3 HPR2.out.lt).lt
  clear b3 hb4 hb24 HC
  have HPK := hide (lawPick_any c 200 (w3.alloc (.cells #[.int .i64 x.clock, .int .i64 x.ct.jobs, .int .i64 x.ct.done, .int .i64 x.jobs.length, .int .i64 x.ct.lost, .int .i64 x.ct.unknown, .int .i64 x.ct.bad, .int .i64 x.ct.spilled, .int .i64 (held x.lines)] 95)) hic (by omega) (by omega))
  have hp0 := pk_lo c 200 (by omega)
  have hp1 := pk_hi c 200 (by omega)
  generalize pk c 200 = pc at *
  have hwat : IntKind.i64.wrap (x.clock + pc) = x.clock + pc := IntWalk.i64_in _ ⟨by omega, by omega⟩
  go_wp2_with fail
  refine HPK.out.mono ?_
  rintro r w4' ⟨rfl, rfl⟩
  go_upto_region 12 with (fail)
  generalize (w3.alloc (.cells #[.int .i64 x.clock, .int .i64 x.ct.jobs, .int .i64 x.ct.done, .int .i64 x.jobs.length, .int .i64 x.ct.lost, .int .i64 x.ct.unknown, .int .i64 x.ct.bad, .int .i64 x.ct.spilled, .int .i64 (held x.lines)] 95)) = W4 at *
  have q1 : W4.cell? ⟨w.heap.size, 1, none⟩ = some (.int .i64 a) := HOP4.out.cell 1
  have q4 : W4.cell? ⟨w.heap.size, 4, none⟩ = some (.string s) := HOP4.out.cell 4
  have hol4 : w.heap.size < W4.heap.size := by omega
  have hpl4 : w.heap.size + 1 < W4.heap.size := by omega
  clear r0 r1 r2 r3 r4
  go_wp2_with fail
  refine (lent_any s _ _ (by omega)).mono ?_
  rintro r w5 ⟨lv, rfl, hlb, b5⟩
  obtain ⟨⟨la, lc, hlv⟩, hlf⟩ := hlb.form
  subst hlv
  have hz5 := b5.size
  have HP5 := hide (HP4.out.below b5)
  have HOP5 := hide (HOP4.out.later b5 hol4)
  have HPR5 := hide (HPR4.out.later b5 hpl4)
  have HB5 : Hid (Below w.heap.size w w5) := HB4.out.trans (b5.mono (by omega))
  have HLB5 := hide hlb
  have HLO5 : Hid (∀ g, Value.ownBlock (.slice la s.size lc) = some g → W4.heap.size ≤ g ∧ g < w5.heap.size) := fun g e => hlb.own e
  have hbyt : BytV w5 (fun k => own k ≠ 0) (.slice la s.size lc) (sbytes s) := hlb.rd.byt (Nat.le_refl _) (fun g e e' => e' (HOWN.out g (by have := HLO5.out g e; omega))) hlf
  have hsl := sbytes_length s
  have HFX := hide (HP5.out.feedX (by omega) HE.out HX.out HI.out (by omega) b (x.clock + pc) hbyt (by omega))
  have q2 : w5.cell? ⟨w.heap.size, 2, none⟩ = some (.int .i64 b) := HOP5.out.cell 2
  have u0 : w5.cell? ⟨w.heap.size + 1, 0, none⟩ = some (.pointer (some ⟨e.1, 0, none⟩)) := HPR5.out.cell 0
  have hol5 : w.heap.size < w5.heap.size := by omega
  have hpl5 : w.heap.size + 1 < w5.heap.size := by omega
  clear b5 hlb q1 q4 hlf hbyt
  generalize hEF : exFeed x b (x.clock + pc) (sbytes s) = EF at *
  have HEF := hide hEF
  have HINF : Hid (ExIn EF.1 (if EF.2 = 0 then N + (sbytes s).length else N)) := by
    have := exFeed_in (line := b) (t := x.clock + pc) (bs := sbytes s) HI.out (sbytes_all s)
    rw [hEF] at this
    exact this
  obtain ⟨x6, er⟩ := EF
  simp only at HFX HINF
  clear hEF
  go_wp2_with fail
  refine HFX.out.mono ?_
  rintro r w6 ⟨rfl, own6, p6, g6⟩
  have hz6 := g6.1.size
  have hk6 : ∀ k, k < w5.heap.size → own k = 0 → w6.heap[k]? = w5.heap[k]? := fun k hk e => g6.1.block k hk fun e' => e' e
  have HLB6 := hide (HLB5.out.same fun g e => hk6 g (HLO5.out g e).2 (HOWN.out g (by have := HLO5.out g e; omega)))
  have HOP6 : Hid (Blk w6 w.heap.size _ _) := (hk6 _ hol5 (HOWN.out _ (Nat.le_refl _))).trans HOP5.out
  have HPR6 : Hid (Blk w6 (w.heap.size + 1) _ _) := (hk6 _ hpl5 (HOWN.out _ (by omega))).trans HPR5.out
  have HP6 := hide p6
  have HB6 : Hid (Fr (fun k => own k ≠ 0) w w6) := (Fr.of_below HB5.out).trans g6.1 fun _ _ e => e
  have HO6 : Hid (∀ k, k < w5.heap.size → own6 k = own k) := g6.2
  have HBK := hide (back_true W4.heap.size _ s w6 HLB6.out (by omega))
  have v4 : w6.cell? ⟨w.heap.size, 4, none⟩ = some (.string s) := HOP6.out.cell 4
  have hol6 : w.heap.size < w6.heap.size := by omega
  have hpl6 : w.heap.size + 1 < w6.heap.size := by omega
  clear p6 g6 hk6 q2 u0 HFX
  go_wp2_with fail
  refine HBK.out.mono ?_
  rintro r w7 ⟨rfl, f7⟩
  have hz7 := f7.size
  have hnl : ∀ k, k < W4.heap.size → Value.ownBlock (.slice la s.size lc) ≠ some k := fun k hk e => by have := HLO5.out k e; omega
  have HP7 := hide (HP6.out.quiet f7 fun k e => ⟨by rw [HO6.out k (HLO5.out k e).2]; exact HOWN.out k (by have := HLO5.out k e; omega), by have := HLO5.out k e; omega⟩)
  have HOP7 : Hid (Blk w7 w.heap.size _ _) := (f7.block _ hol6 (hnl _ hol4)).trans HOP6.out
  have HPR7 : Hid (Blk w7 (w.heap.size + 1) _ _) := (f7.block _ hpl6 (hnl _ hpl4)).trans HPR6.out
  have HB7 : Hid (Fr (fun k => own k ≠ 0) w w7) := HB6.out.trans f7 fun k hk e => by have := HLO5.out k e; omega
  obtain ⟨cap8, w8, hcv, b8, rd8⟩ := conv_strR s w7
  have hz8 := b8.size
  have HP8 := hide (HP7.out.below b8)
  have HO7 : Hid (∀ k, w7.heap.size ≤ k → own6 k = 0) := fun k hk => own_new HP7.out hk
  have hbyt : BytV w8 (fun k => own6 k ≠ 0) (.slice (some ⟨w7.heap.size, 0, none⟩) s.size cap8) (sbytes s) := rd8.byt (Nat.le_refl _) (fun g e e' => by simp only [Value.ownBlock, Option.some.injEq] at e; exact e' (HO7.out g (by omega))) (.inr ⟨_, _, _, rfl⟩)
  have HFY := hide (HP8.out.feedY (by omega) HE.out HX.out HI.out (by omega) b (x.clock + pc) hbyt (by omega))
  rw [HEF.out] at HFY
  simp only at HFY
  have HB8 : Hid (Fr (fun k => own k ≠ 0) w w8) := HB7.out.then_below b8
  have y1 : w7.cell? ⟨w.heap.size + 1, 1, none⟩ = some (.pointer (some ⟨e.2, 0, none⟩)) := HPR7.out.cell 1
  have y2 : w7.cell? ⟨w.heap.size, 2, none⟩ = some (.int .i64 b) := HOP7.out.cell 2
  have y4 : w7.cell? ⟨w.heap.size, 4, none⟩ = some (.string s) := HOP7.out.cell 4
  have hol7 : w.heap.size < w7.heap.size := by omega
  have hpl7 : w.heap.size + 1 < w7.heap.size := by omega
  clear f7 b8 rd8 hbyt v4 HBK
  go_wp2_with fail
  refine HFY.out.mono ?_
  rintro r w9 ⟨rfl, own9, p9, g9⟩
  have HP9 := hide p9
  have HB9 : Hid (Fr (fun k => own k ≠ 0) w w9) := HB8.out.trans g9.1 fun k hk e => by rw [HO6.out k (by omega)] at e; exact e
  clear p9 g9 HFY
  go_wp2_with fail
  go_ret
  refine ⟨rfl, own9, ne, x6, _, HP9.out, HINF.out, ?_, by omega, HB9.out⟩
  split <;> omega

set_option maxRecDepth 100000 in
set_option maxHeartbeats 3200000 in
theorem works6 (own : Nat → Nat) (B Q B0 : Nat) (psv : Value) (nb ni ne nl nt : Nat) (es : List (Nat × Nat)) (xs : List Exs) (i : Nat) (e : Nat × Nat) (x : Exs) (N : Int) (v : Value) (o : Stp) (w : World) (p : Rig w own B Q psv nb ni ne nl nt es xs xs) (hB : B ≤ w.heap.size) (hv : Op1 w B0 v o) (hok : StpOk o) (hin : In64 o.a ∧ In64 o.b ∧ In64 o.c) (he : es[i]? = some e) (hx : xs[i]? = some x) (hi : ExIn x N) (hN : N ≤ 700000000000000) (hne : ne ≤ 1000000000) (hk : o.kind = 6) :
    Calls Tryz.prog 15 #[.pointer (some ⟨B, 0, none⟩), v, .agg #[.pointer (some ⟨e.1, 0, none⟩), .pointer (some ⟨e.2, 0, none⟩)]] w fun r w' => r = .returned (.bool true) ∧ ∃ own' ne' x' N', Rig w' own' B Q psv nb ni ne' nl nt es (xs.set i x') (xs.set i x') ∧ ExIn x' N' ∧ N' ≤ N + 10000000 ∧ ne' ≤ ne + 1 ∧ Fr (fun k => own k ≠ 0) w w' := by
  obtain ⟨t, rfl, ht⟩ := hv
  obtain ⟨kind, a, b, c, s, cfg⟩ := o
  obtain ⟨x1, x2, x3, x4, x5, ts⟩ := cfg
  obtain ⟨hs, -, -⟩ := hok
  obtain ⟨hia, hib, hic⟩ := hin
  simp only at ht hs hia hib hic hk ⊢
  subst hk
  obtain ⟨ta, tc, rfl⟩ := ht.slice
  have HI := hide hi
  have HE := hide he
  have HX := hide hx
  have hck0 := hi.ck0
  have hck1 := hi.ck1
  have hb2 : Below w.heap.size w ((w.alloc (.cells #[.int .i64 6, .int .i64 a, .int .i64 b, .int .i64 c, .string s, .int .i64 x1, .int .i64 x2, .int .i64 x3, .int .i64 x4, .int .i64 x5, .slice ta ts.length tc] 43)).alloc (.cells #[.pointer (some ⟨e.1, 0, none⟩), .pointer (some ⟨e.2, 0, none⟩)] 49)) := ((Below.refl _ _).alloc (Nat.le_refl _) _).alloc (by simp) _
  have HP2 := hide (p.below hb2)
  have HB2 := hide hb2
  have HOP2 : Hid (Blk ((w.alloc (.cells #[.int .i64 6, .int .i64 a, .int .i64 b, .int .i64 c, .string s, .int .i64 x1, .int .i64 x2, .int .i64 x3, .int .i64 x4, .int .i64 x5, .slice ta ts.length tc] 43)).alloc (.cells #[.pointer (some ⟨e.1, 0, none⟩), .pointer (some ⟨e.2, 0, none⟩)] 49)) w.heap.size #[.int .i64 6, .int .i64 a, .int .i64 b, .int .i64 c, .string s, .int .i64 x1, .int .i64 x2, .int .i64 x3, .int .i64 x4, .int .i64 x5, .slice ta ts.length tc] 43) := (Blk.new w _ _).alloc _
  have HPR2 : Hid (Blk ((w.alloc (.cells #[.int .i64 6, .int .i64 a, .int .i64 b, .int .i64 c, .string s, .int .i64 x1, .int .i64 x2, .int .i64 x3, .int .i64 x4, .int .i64 x5, .slice ta ts.length tc] 43)).alloc (.cells #[.pointer (some ⟨e.1, 0, none⟩), .pointer (some ⟨e.2, 0, none⟩)] 49)) (w.heap.size + 1) #[.pointer (some ⟨e.1, 0, none⟩), .pointer (some ⟨e.2, 0, none⟩)] 49) := by
    have := Blk.new (w.alloc (.cells #[.int .i64 6, .int .i64 a, .int .i64 b, .int .i64 c, .string s, .int .i64 x1, .int .i64 x2, .int .i64 x3, .int .i64 x4, .int .i64 x5, .slice ta ts.length tc] 43)) #[.pointer (some ⟨e.1, 0, none⟩), .pointer (some ⟨e.2, 0, none⟩)] 49
    simpa [Hid] using this
  have HC := hide (HP2.out.cntY he hx hi)
  have HOWN : Hid (∀ k, w.heap.size ≤ k → own k = 0) := fun k hk => own_new p hk
  have hqs := p.qs
  have HLO : Hid (∀ k, own k ≠ 0 → B ≤ k) := fun k e => (p.lo k e).1
  clear p ht hi he hx hb2
  go_enter Tryz.func15, Tryz.ntmps15
  go_wp2_with fail
  refine HC.out.mono ?_
  generalize ((w.alloc (.cells #[.int .i64 6, .int .i64 a, .int .i64 b, .int .i64 c, .string s, .int .i64 x1, .int .i64 x2, .int .i64 x3, .int .i64 x4, .int .i64 x5, .slice ta ts.length tc] 43)).alloc (.cells #[.pointer (some ⟨e.1, 0, none⟩), .pointer (some ⟨e.2, 0, none⟩)] 49)) = W2 at *
  rintro r w3 ⟨rfl, b3⟩
  simp only [countsV]
  have hz2 := HB2.out.size
  have hz3 := b3.size
  have hb4 : Below w3.heap.size w3 (w3.alloc (.cells #[.int .i64 x.clock, .int .i64 x.ct.jobs, .int .i64 x.ct.done, .int .i64 x.jobs.length, .int .i64 x.ct.lost, .int .i64 x.ct.unknown, .int .i64 x.ct.bad, .int .i64 x.ct.spilled, .int .i64 (held x.lines)] 95)) := (Below.refl _ _).alloc (Nat.le_refl _) _
  have hb24 := b3.trans (hb4.mono hz3)
  have HP4 := hide (HP2.out.below hb24)
  have HB4 : Hid (Below w.heap.size w (w3.alloc (.cells #[.int .i64 x.clock, .int .i64 x.ct.jobs, .int .i64 x.ct.done, .int .i64 x.jobs.length, .int .i64 x.ct.lost, .int .i64 x.ct.unknown, .int .i64 x.ct.bad, .int .i64 x.ct.spilled, .int .i64 (held x.lines)] 95))) := HB2.out.trans (hb24.mono hz2)
  have HOP4 := hide (HOP2.out.later hb24 HOP2.out.lt)
  have HPR4 := hide (HPR2.out.later hb24 HPR2.out.lt)
  have HCT4 := hide (Blk.new w3 #[.int .i64 x.clock, .int .i64 x.ct.jobs, .int .i64 x.ct.done, .int .i64 x.jobs.length, .int .i64 x.ct.lost, .int .i64 x.ct.unknown, .int .i64 x.ct.bad, .int .i64 x.ct.spilled, .int .i64 (held x.lines)] 95)
  have hz4 : w3.heap.size < (w3.alloc (.cells #[.int .i64 x.clock, .int .i64 x.ct.jobs, .int .i64 x.ct.done, .int .i64 x.jobs.length, .int .i64 x.ct.lost, .int .i64 x.ct.unknown, .int .i64 x.ct.bad, .int .i64 x.ct.spilled, .int .i64 (held x.lines)] 95)).heap.size := by simp
  have r1 : w3.cell? ⟨w.heap.size, 1, none⟩ = some (.int .i64 a) := (HOP2.out.later b3 HOP2.out.lt).cell 1
  have r2 : w3.cell? ⟨w.heap.size, 2, none⟩ = some (.int .i64 b) := (HOP2.out.later b3 HOP2.out.lt).cell 2
  have r3 : w3.cell? ⟨w.heap.size, 3, none⟩ = some (.int .i64 c) := (HOP2.out.later b3 HOP2.out.lt).cell 3
  have r4 : w3.cell? ⟨w.heap.size, 4, none⟩ = some (.string s) := (HOP2.out.later b3 HOP2.out.lt).cell 4
  have r0 : w3.cell? ⟨w.heap.size, 0, none⟩ = some (.int .i64 6) := (HOP2.out.later b3 HOP2.out.lt).cell 0
  have hol : w.heap.size < w3.heap.size := (HOP2.out.later b3 HOP2.out.lt).lt
  have hpl : w.heap.size + 1 < w3.heap.size := (HPR2.out.later b3 HPR2.out.lt).lt
  clear b3 hb4 hb24 HC
  go_upto_region 19 with (fail)
  generalize (w3.alloc (.cells #[.int .i64 x.clock, .int .i64 x.ct.jobs, .int .i64 x.ct.done, .int .i64 x.jobs.length, .int .i64 x.ct.lost, .int .i64 x.ct.unknown, .int .i64 x.ct.bad, .int .i64 x.ct.spilled, .int .i64 (held x.lines)] 95)) = W4 at *
  have u0 : W4.cell? ⟨w.heap.size + 1, 0, none⟩ = some (.pointer (some ⟨e.1, 0, none⟩)) := HPR4.out.cell 0
  have hol4 : w.heap.size < W4.heap.size := by omega
  have hpl4 : w.heap.size + 1 < W4.heap.size := by omega
  have HRX := hide (HP4.out.runX (by omega) HE.out HX.out HI.out (by omega) (b))
  have HLEN := hide (exRun_len (b) 3000 HI.out)
  have HINR := hide (exRun_in (b) 3000 HI.out)
  generalize hER : exRun (b) 3000 x = ER at *
  have HER := hide hER
  obtain ⟨x5, es5⟩ := ER
  simp only at HRX HLEN HINR
  clear r0 r1 r2 r3 r4 hER
  go_wp2_with fail
  refine HRX.out.mono ?_
  rintro r w5 ⟨ev, rfl, e5, own5, p5, g5, n5⟩
  obtain ⟨ea, ec, hev⟩ := ownsRow_slice e5
  subst hev
  have hz5 := g5.1.size
  have HPR5 : Hid (Blk w5 (w.heap.size + 1) _ _) := (g5.1.block _ hpl4 fun e' => e' (HOWN.out _ (by omega))).trans HPR4.out
  have HP5 := hide p5
  have HE5 := hide e5
  have HN5 := hide n5
  have HB5 : Hid (Fr (fun k => own k ≠ 0) w w5) := (Fr.of_below HB4.out).trans g5.1 fun _ _ e => e
  have HO5 : Hid (∀ k, k < W4.heap.size → own5 k = own k) := g5.2
  have HRY := hide (p5.runY (by omega) HE.out HX.out HI.out (by omega) (b))
  rw [HER.out] at HRY
  simp only at HRY
  have u1 : w5.cell? ⟨w.heap.size + 1, 1, none⟩ = some (.pointer (some ⟨e.2, 0, none⟩)) := HPR5.out.cell 1
  have hpl5 : w.heap.size + 1 < w5.heap.size := by omega
  clear e5 p5 g5 n5 u0 HRX
  go_wp2_with fail
  refine HRY.out.mono ?_
  rintro r w6 ⟨ev2, rfl, e6, own6, p6, g6⟩
  obtain ⟨fa, fc, hev2⟩ := ownsRow_slice e6
  subst hev2
  have hz6 := g6.1.size
  have he6 : EvP w6 W4.heap.size (.slice ea es5.length ec) es5 := HE5.out.same fun k hk => g6.1.block k (ownsRow_lt HE5.out hk).2 fun e' => e' (HN5.out k hk)
  have HSE := hide (sameEvents_true W4.heap.size w5.heap.size _ _ es5 w6 he6 e6 (by have := HLEN.out; omega))
  have HE6 := hide he6
  have HP6 := hide p6
  have HN6 : Hid (∀ k, Value.ownBlock (.slice ea es5.length ec) = some k → own6 k = 0) := fun k hk => by rw [g6.2 k (ownsRow_lt HE5.out hk).2]; exact HN5.out k hk
  have HB6 : Hid (Fr (fun k => own k ≠ 0) w w6) := HB5.out.trans g6.1 fun k hk e => by rw [HO5.out k (by omega)] at e; exact e
  have HO6 : Hid (∀ k, k < W4.heap.size → own6 k = own k) := fun k hk => by rw [g6.2 k (by omega)]; exact HO5.out k hk
  clear e6 p6 g6 he6 u1 HRY
  go_wp2_with fail
  refine HSE.out.mono ?_
  rintro r w7 ⟨rfl, b7⟩
  have hz7 := b7.size
  have HB7 : Hid (Fr (fun k => own k ≠ 0) w w7) := HB6.out.then_below b7
  have hown : w7.ownsRow B 149 5 (.slice ea es5.length ec) es5.length (erow es5) := ownsRow_lower' (HE6.out.later b7) (by omega)
  have HEV := hide ((HP6.out.below b7).event (by omega) hown (fun k hk => ⟨HN6.out k hk, by have := (ownsRow_lt HE5.out hk).1; omega⟩) (by have := HLEN.out; omega) hne)
  clear b7 hown HSE
  go_wp2_with fail
  refine HEV.out.mono ?_
  rintro r w8 ⟨rfl, own8, p8, b8⟩
  have HP8 := hide p8
  have HB8 : Hid (Fr (fun k => own k ≠ 0) w w8) := HB7.out.trans b8 fun k hk e => by
    rcases e with e | e
    · rw [HO6.out k (by omega)] at e; exact e
    · have := (ownsRow_lt HE5.out e).1; omega
  clear p8 b8 HEV
  go_wp2_with fail
  go_ret
  exact ⟨rfl, own8, ne + 1, x5, N, HP8.out, HINR.out, by omega, by omega, HB8.out⟩

set_option maxRecDepth 100000 in
set_option maxHeartbeats 3200000 in
theorem works9 (own : Nat → Nat) (B Q B0 : Nat) (psv : Value) (nb ni ne nl nt : Nat) (es : List (Nat × Nat)) (xs : List Exs) (i : Nat) (e : Nat × Nat) (x : Exs) (N : Int) (v : Value) (o : Stp) (w : World) (p : Rig w own B Q psv nb ni ne nl nt es xs xs) (hB : B ≤ w.heap.size) (hv : Op1 w B0 v o) (hok : StpOk o) (hin : In64 o.a ∧ In64 o.b ∧ In64 o.c) (he : es[i]? = some e) (hx : xs[i]? = some x) (hi : ExIn x N) (hN : N ≤ 700000000000000) (hne : ne ≤ 1000000000) (hk : o.kind = 9) :
    Calls Tryz.prog 15 #[.pointer (some ⟨B, 0, none⟩), v, .agg #[.pointer (some ⟨e.1, 0, none⟩), .pointer (some ⟨e.2, 0, none⟩)]] w fun r w' => r = .returned (.bool true) ∧ ∃ own' ne' x' N', Rig w' own' B Q psv nb ni ne' nl nt es (xs.set i x') (xs.set i x') ∧ ExIn x' N' ∧ N' ≤ N + 10000000 ∧ ne' ≤ ne + 1 ∧ Fr (fun k => own k ≠ 0) w w' := by
  obtain ⟨t, rfl, ht⟩ := hv
  obtain ⟨kind, a, b, c, s, cfg⟩ := o
  obtain ⟨x1, x2, x3, x4, x5, ts⟩ := cfg
  obtain ⟨hs, -, -⟩ := hok
  obtain ⟨hia, hib, hic⟩ := hin
  simp only at ht hs hia hib hic hk ⊢
  subst hk
  obtain ⟨ta, tc, rfl⟩ := ht.slice
  have HI := hide hi
  have HE := hide he
  have HX := hide hx
  have hck0 := hi.ck0
  have hck1 := hi.ck1
  have hb2 : Below w.heap.size w ((w.alloc (.cells #[.int .i64 9, .int .i64 a, .int .i64 b, .int .i64 c, .string s, .int .i64 x1, .int .i64 x2, .int .i64 x3, .int .i64 x4, .int .i64 x5, .slice ta ts.length tc] 43)).alloc (.cells #[.pointer (some ⟨e.1, 0, none⟩), .pointer (some ⟨e.2, 0, none⟩)] 49)) := ((Below.refl _ _).alloc (Nat.le_refl _) _).alloc (by simp) _
  have HP2 := hide (p.below hb2)
  have HB2 := hide hb2
  have HOP2 : Hid (Blk ((w.alloc (.cells #[.int .i64 9, .int .i64 a, .int .i64 b, .int .i64 c, .string s, .int .i64 x1, .int .i64 x2, .int .i64 x3, .int .i64 x4, .int .i64 x5, .slice ta ts.length tc] 43)).alloc (.cells #[.pointer (some ⟨e.1, 0, none⟩), .pointer (some ⟨e.2, 0, none⟩)] 49)) w.heap.size #[.int .i64 9, .int .i64 a, .int .i64 b, .int .i64 c, .string s, .int .i64 x1, .int .i64 x2, .int .i64 x3, .int .i64 x4, .int .i64 x5, .slice ta ts.length tc] 43) := (Blk.new w _ _).alloc _
  have HPR2 : Hid (Blk ((w.alloc (.cells #[.int .i64 9, .int .i64 a, .int .i64 b, .int .i64 c, .string s, .int .i64 x1, .int .i64 x2, .int .i64 x3, .int .i64 x4, .int .i64 x5, .slice ta ts.length tc] 43)).alloc (.cells #[.pointer (some ⟨e.1, 0, none⟩), .pointer (some ⟨e.2, 0, none⟩)] 49)) (w.heap.size + 1) #[.pointer (some ⟨e.1, 0, none⟩), .pointer (some ⟨e.2, 0, none⟩)] 49) := by
    have := Blk.new (w.alloc (.cells #[.int .i64 9, .int .i64 a, .int .i64 b, .int .i64 c, .string s, .int .i64 x1, .int .i64 x2, .int .i64 x3, .int .i64 x4, .int .i64 x5, .slice ta ts.length tc] 43)) #[.pointer (some ⟨e.1, 0, none⟩), .pointer (some ⟨e.2, 0, none⟩)] 49
    simpa [Hid] using this
  have HC := hide (HP2.out.cntY he hx hi)
  have HOWN : Hid (∀ k, w.heap.size ≤ k → own k = 0) := fun k hk => own_new p hk
  have hqs := p.qs
  have HLO : Hid (∀ k, own k ≠ 0 → B ≤ k) := fun k e => (p.lo k e).1
  clear p ht hi he hx hb2
  go_enter Tryz.func15, Tryz.ntmps15
  go_wp2_with fail
  refine HC.out.mono ?_
  generalize ((w.alloc (.cells #[.int .i64 9, .int .i64 a, .int .i64 b, .int .i64 c, .string s, .int .i64 x1, .int .i64 x2, .int .i64 x3, .int .i64 x4, .int .i64 x5, .slice ta ts.length tc] 43)).alloc (.cells #[.pointer (some ⟨e.1, 0, none⟩), .pointer (some ⟨e.2, 0, none⟩)] 49)) = W2 at *
  rintro r w3 ⟨rfl, b3⟩
  simp only [countsV]
  have hz2 := HB2.out.size
  have hz3 := b3.size
  have hb4 : Below w3.heap.size w3 (w3.alloc (.cells #[.int .i64 x.clock, .int .i64 x.ct.jobs, .int .i64 x.ct.done, .int .i64 x.jobs.length, .int .i64 x.ct.lost, .int .i64 x.ct.unknown, .int .i64 x.ct.bad, .int .i64 x.ct.spilled, .int .i64 (held x.lines)] 95)) := (Below.refl _ _).alloc (Nat.le_refl _) _
  have hb24 := b3.trans (hb4.mono hz3)
  have HP4 := hide (HP2.out.below hb24)
  have HB4 : Hid (Below w.heap.size w (w3.alloc (.cells #[.int .i64 x.clock, .int .i64 x.ct.jobs, .int .i64 x.ct.done, .int .i64 x.jobs.length, .int .i64 x.ct.lost, .int .i64 x.ct.unknown, .int .i64 x.ct.bad, .int .i64 x.ct.spilled, .int .i64 (held x.lines)] 95))) := HB2.out.trans (hb24.mono hz2)
  have HOP4 := hide (HOP2.out.later hb24 HOP2.out.lt)
  have HPR4 := hide (HPR2.out.later hb24 HPR2.out.lt)
  have HCT4 := hide (Blk.new w3 #[.int .i64 x.clock, .int .i64 x.ct.jobs, .int .i64 x.ct.done, .int .i64 x.jobs.length, .int .i64 x.ct.lost, .int .i64 x.ct.unknown, .int .i64 x.ct.bad, .int .i64 x.ct.spilled, .int .i64 (held x.lines)] 95)
  have hz4 : w3.heap.size < (w3.alloc (.cells #[.int .i64 x.clock, .int .i64 x.ct.jobs, .int .i64 x.ct.done, .int .i64 x.jobs.length, .int .i64 x.ct.lost, .int .i64 x.ct.unknown, .int .i64 x.ct.bad, .int .i64 x.ct.spilled, .int .i64 (held x.lines)] 95)).heap.size := by simp
  have r1 : w3.cell? ⟨w.heap.size, 1, none⟩ = some (.int .i64 a) := (HOP2.out.later b3 HOP2.out.lt).cell 1
  have r2 : w3.cell? ⟨w.heap.size, 2, none⟩ = some (.int .i64 b) := (HOP2.out.later b3 HOP2.out.lt).cell 2
  have r3 : w3.cell? ⟨w.heap.size, 3, none⟩ = some (.int .i64 c) := (HOP2.out.later b3 HOP2.out.lt).cell 3
  have r4 : w3.cell? ⟨w.heap.size, 4, none⟩ = some (.string s) := (HOP2.out.later b3 HOP2.out.lt).cell 4
  have r0 : w3.cell? ⟨w.heap.size, 0, none⟩ = some (.int .i64 9) := (HOP2.out.later b3 HOP2.out.lt).cell 0
  have hol : w.heap.size < w3.heap.size := (HOP2.out.later b3 HOP2.out.lt).lt
  have hpl : w.heap.size + 1 < w3.heap.size := (HPR2.out.later b3 HPR2.out.lt).lt
  clear b3 hb4 hb24 HC
  have HPK := hide (lawPick_any b 200 (w3.alloc (.cells #[.int .i64 x.clock, .int .i64 x.ct.jobs, .int .i64 x.ct.done, .int .i64 x.jobs.length, .int .i64 x.ct.lost, .int .i64 x.ct.unknown, .int .i64 x.ct.bad, .int .i64 x.ct.spilled, .int .i64 (held x.lines)] 95)) hib (by omega) (by omega))
  have hp0 := pk_lo b 200 (by omega)
  have hp1 := pk_hi b 200 (by omega)
  generalize pk b 200 = pc at *
  have hwat : IntKind.i64.wrap (x.clock + pc) = x.clock + pc := IntWalk.i64_in _ ⟨by omega, by omega⟩
  go_wp2_with fail
  refine HPK.out.mono ?_
  rintro r w4' ⟨rfl, rfl⟩
  go_upto_region 19 with (fail)
  generalize (w3.alloc (.cells #[.int .i64 x.clock, .int .i64 x.ct.jobs, .int .i64 x.ct.done, .int .i64 x.jobs.length, .int .i64 x.ct.lost, .int .i64 x.ct.unknown, .int .i64 x.ct.bad, .int .i64 x.ct.spilled, .int .i64 (held x.lines)] 95)) = W4 at *
  have u0 : W4.cell? ⟨w.heap.size + 1, 0, none⟩ = some (.pointer (some ⟨e.1, 0, none⟩)) := HPR4.out.cell 0
  have hol4 : w.heap.size < W4.heap.size := by omega
  have hpl4 : w.heap.size + 1 < W4.heap.size := by omega
  have HRX := hide (HP4.out.runX (by omega) HE.out HX.out HI.out (by omega) (x.clock + pc))
  have HLEN := hide (exRun_len (x.clock + pc) 3000 HI.out)
  have HINR := hide (exRun_in (x.clock + pc) 3000 HI.out)
  generalize hER : exRun (x.clock + pc) 3000 x = ER at *
  have HER := hide hER
  obtain ⟨x5, es5⟩ := ER
  simp only at HRX HLEN HINR
  clear r0 r1 r2 r3 r4 hER
  go_wp2_with fail
  refine HRX.out.mono ?_
  rintro r w5 ⟨ev, rfl, e5, own5, p5, g5, n5⟩
  obtain ⟨ea, ec, hev⟩ := ownsRow_slice e5
  subst hev
  have hz5 := g5.1.size
  have HPR5 : Hid (Blk w5 (w.heap.size + 1) _ _) := (g5.1.block _ hpl4 fun e' => e' (HOWN.out _ (by omega))).trans HPR4.out
  have HP5 := hide p5
  have HE5 := hide e5
  have HN5 := hide n5
  have HB5 : Hid (Fr (fun k => own k ≠ 0) w w5) := (Fr.of_below HB4.out).trans g5.1 fun _ _ e => e
  have HO5 : Hid (∀ k, k < W4.heap.size → own5 k = own k) := g5.2
  have HRY := hide (p5.runY (by omega) HE.out HX.out HI.out (by omega) (x.clock + pc))
  rw [HER.out] at HRY
  simp only at HRY
  have u1 : w5.cell? ⟨w.heap.size + 1, 1, none⟩ = some (.pointer (some ⟨e.2, 0, none⟩)) := HPR5.out.cell 1
  have hpl5 : w.heap.size + 1 < w5.heap.size := by omega
  clear e5 p5 g5 n5 u0 HRX
  go_wp2_with fail
  refine HRY.out.mono ?_
  rintro r w6 ⟨ev2, rfl, e6, own6, p6, g6⟩
  obtain ⟨fa, fc, hev2⟩ := ownsRow_slice e6
  subst hev2
  have hz6 := g6.1.size
  have he6 : EvP w6 W4.heap.size (.slice ea es5.length ec) es5 := HE5.out.same fun k hk => g6.1.block k (ownsRow_lt HE5.out hk).2 fun e' => e' (HN5.out k hk)
  have HSE := hide (sameEvents_true W4.heap.size w5.heap.size _ _ es5 w6 he6 e6 (by have := HLEN.out; omega))
  have HE6 := hide he6
  have HP6 := hide p6
  have HN6 : Hid (∀ k, Value.ownBlock (.slice ea es5.length ec) = some k → own6 k = 0) := fun k hk => by rw [g6.2 k (ownsRow_lt HE5.out hk).2]; exact HN5.out k hk
  have HB6 : Hid (Fr (fun k => own k ≠ 0) w w6) := HB5.out.trans g6.1 fun k hk e => by rw [HO5.out k (by omega)] at e; exact e
  have HO6 : Hid (∀ k, k < W4.heap.size → own6 k = own k) := fun k hk => by rw [g6.2 k (by omega)]; exact HO5.out k hk
  clear e6 p6 g6 he6 u1 HRY
  go_wp2_with fail
  refine HSE.out.mono ?_
  rintro r w7 ⟨rfl, b7⟩
  have hz7 := b7.size
  have HB7 : Hid (Fr (fun k => own k ≠ 0) w w7) := HB6.out.then_below b7
  have hown : w7.ownsRow B 149 5 (.slice ea es5.length ec) es5.length (erow es5) := ownsRow_lower' (HE6.out.later b7) (by omega)
  have HEV := hide ((HP6.out.below b7).event (by omega) hown (fun k hk => ⟨HN6.out k hk, by have := (ownsRow_lt HE5.out hk).1; omega⟩) (by have := HLEN.out; omega) hne)
  clear b7 hown HSE
  go_wp2_with fail
  refine HEV.out.mono ?_
  rintro r w8 ⟨rfl, own8, p8, b8⟩
  have HP8 := hide p8
  have HB8 : Hid (Fr (fun k => own k ≠ 0) w w8) := HB7.out.trans b8 fun k hk e => by
    rcases e with e | e
    · rw [HO6.out k (by omega)] at e; exact e
    · have := (ownsRow_lt HE5.out e).1; omega
  clear p8 b8 HEV
  go_wp2_with fail
  go_ret
  exact ⟨rfl, own8, ne + 1, x5, N, HP8.out, HINR.out, by omega, by omega, HB8.out⟩

set_option maxRecDepth 100000 in
set_option maxHeartbeats 3200000 in
theorem works7 (own : Nat → Nat) (B Q B0 : Nat) (psv : Value) (nb ni ne nl nt : Nat) (es : List (Nat × Nat)) (xs : List Exs) (i : Nat) (e : Nat × Nat) (x : Exs) (N : Int) (v : Value) (o : Stp) (w : World) (p : Rig w own B Q psv nb ni ne nl nt es xs xs) (hB : B ≤ w.heap.size) (hv : Op1 w B0 v o) (hok : StpOk o) (hin : In64 o.a ∧ In64 o.b ∧ In64 o.c) (he : es[i]? = some e) (hx : xs[i]? = some x) (hi : ExIn x N) (_hN : N ≤ 700000000000000) (hk : o.kind = 7) :
    Calls Tryz.prog 15 #[.pointer (some ⟨B, 0, none⟩), v, .agg #[.pointer (some ⟨e.1, 0, none⟩), .pointer (some ⟨e.2, 0, none⟩)]] w fun r w' => r = .returned (.bool true) ∧ ∃ own' ne' x' N', Rig w' own' B Q psv nb ni ne' nl nt es (xs.set i x') (xs.set i x') ∧ ExIn x' N' ∧ N' ≤ N + 10000000 ∧ ne' ≤ ne + 1 ∧ Fr (fun k => own k ≠ 0) w w' := by
  obtain ⟨t, rfl, ht⟩ := hv
  obtain ⟨kind, a, b, c, s, cfg⟩ := o
  obtain ⟨x1, x2, x3, x4, x5, ts⟩ := cfg
  obtain ⟨hs, -, -⟩ := hok
  obtain ⟨hia, hib, hic⟩ := hin
  simp only at ht hs hia hib hic hk ⊢
  subst hk
  obtain ⟨ta, tc, rfl⟩ := ht.slice
  have HI := hide hi
  have HE := hide he
  have HX := hide hx
  have hck0 := hi.ck0
  have hck1 := hi.ck1
  have hb2 : Below w.heap.size w ((w.alloc (.cells #[.int .i64 7, .int .i64 a, .int .i64 b, .int .i64 c, .string s, .int .i64 x1, .int .i64 x2, .int .i64 x3, .int .i64 x4, .int .i64 x5, .slice ta ts.length tc] 43)).alloc (.cells #[.pointer (some ⟨e.1, 0, none⟩), .pointer (some ⟨e.2, 0, none⟩)] 49)) := ((Below.refl _ _).alloc (Nat.le_refl _) _).alloc (by simp) _
  have HP2 := hide (p.below hb2)
  have HB2 := hide hb2
  have HOP2 : Hid (Blk ((w.alloc (.cells #[.int .i64 7, .int .i64 a, .int .i64 b, .int .i64 c, .string s, .int .i64 x1, .int .i64 x2, .int .i64 x3, .int .i64 x4, .int .i64 x5, .slice ta ts.length tc] 43)).alloc (.cells #[.pointer (some ⟨e.1, 0, none⟩), .pointer (some ⟨e.2, 0, none⟩)] 49)) w.heap.size #[.int .i64 7, .int .i64 a, .int .i64 b, .int .i64 c, .string s, .int .i64 x1, .int .i64 x2, .int .i64 x3, .int .i64 x4, .int .i64 x5, .slice ta ts.length tc] 43) := (Blk.new w _ _).alloc _
  have HPR2 : Hid (Blk ((w.alloc (.cells #[.int .i64 7, .int .i64 a, .int .i64 b, .int .i64 c, .string s, .int .i64 x1, .int .i64 x2, .int .i64 x3, .int .i64 x4, .int .i64 x5, .slice ta ts.length tc] 43)).alloc (.cells #[.pointer (some ⟨e.1, 0, none⟩), .pointer (some ⟨e.2, 0, none⟩)] 49)) (w.heap.size + 1) #[.pointer (some ⟨e.1, 0, none⟩), .pointer (some ⟨e.2, 0, none⟩)] 49) := by
    have := Blk.new (w.alloc (.cells #[.int .i64 7, .int .i64 a, .int .i64 b, .int .i64 c, .string s, .int .i64 x1, .int .i64 x2, .int .i64 x3, .int .i64 x4, .int .i64 x5, .slice ta ts.length tc] 43)) #[.pointer (some ⟨e.1, 0, none⟩), .pointer (some ⟨e.2, 0, none⟩)] 49
    simpa [Hid] using this
  have HC := hide (HP2.out.cntY he hx hi)
  have HOWN : Hid (∀ k, w.heap.size ≤ k → own k = 0) := fun k hk => own_new p hk
  have hqs := p.qs
  have HLO : Hid (∀ k, own k ≠ 0 → B ≤ k) := fun k e => (p.lo k e).1
  clear p ht hi he hx hb2
  go_enter Tryz.func15, Tryz.ntmps15
  go_wp2_with fail
  refine HC.out.mono ?_
  generalize ((w.alloc (.cells #[.int .i64 7, .int .i64 a, .int .i64 b, .int .i64 c, .string s, .int .i64 x1, .int .i64 x2, .int .i64 x3, .int .i64 x4, .int .i64 x5, .slice ta ts.length tc] 43)).alloc (.cells #[.pointer (some ⟨e.1, 0, none⟩), .pointer (some ⟨e.2, 0, none⟩)] 49)) = W2 at *
  rintro r w3 ⟨rfl, b3⟩
  simp only [countsV]
  have hz2 := HB2.out.size
  have hz3 := b3.size
  have hb4 : Below w3.heap.size w3 (w3.alloc (.cells #[.int .i64 x.clock, .int .i64 x.ct.jobs, .int .i64 x.ct.done, .int .i64 x.jobs.length, .int .i64 x.ct.lost, .int .i64 x.ct.unknown, .int .i64 x.ct.bad, .int .i64 x.ct.spilled, .int .i64 (held x.lines)] 95)) := (Below.refl _ _).alloc (Nat.le_refl _) _
  have hb24 := b3.trans (hb4.mono hz3)
  have HP4 := hide (HP2.out.below hb24)
  have HB4 : Hid (Below w.heap.size w (w3.alloc (.cells #[.int .i64 x.clock, .int .i64 x.ct.jobs, .int .i64 x.ct.done, .int .i64 x.jobs.length, .int .i64 x.ct.lost, .int .i64 x.ct.unknown, .int .i64 x.ct.bad, .int .i64 x.ct.spilled, .int .i64 (held x.lines)] 95))) := HB2.out.trans (hb24.mono hz2)
  have HOP4 := hide (HOP2.out.later hb24 HOP2.out.lt)
  have HPR4 := hide (HPR2.out.later hb24 HPR2.out.lt)
  have HCT4 := hide (Blk.new w3 #[.int .i64 x.clock, .int .i64 x.ct.jobs, .int .i64 x.ct.done, .int .i64 x.jobs.length, .int .i64 x.ct.lost, .int .i64 x.ct.unknown, .int .i64 x.ct.bad, .int .i64 x.ct.spilled, .int .i64 (held x.lines)] 95)
  have hz4 : w3.heap.size < (w3.alloc (.cells #[.int .i64 x.clock, .int .i64 x.ct.jobs, .int .i64 x.ct.done, .int .i64 x.jobs.length, .int .i64 x.ct.lost, .int .i64 x.ct.unknown, .int .i64 x.ct.bad, .int .i64 x.ct.spilled, .int .i64 (held x.lines)] 95)).heap.size := by simp
  have r1 : w3.cell? ⟨w.heap.size, 1, none⟩ = some (.int .i64 a) := (HOP2.out.later b3 HOP2.out.lt).cell 1
  have r2 : w3.cell? ⟨w.heap.size, 2, none⟩ = some (.int .i64 b) := (HOP2.out.later b3 HOP2.out.lt).cell 2
  have r3 : w3.cell? ⟨w.heap.size, 3, none⟩ = some (.int .i64 c) := (HOP2.out.later b3 HOP2.out.lt).cell 3
  have r4 : w3.cell? ⟨w.heap.size, 4, none⟩ = some (.string s) := (HOP2.out.later b3 HOP2.out.lt).cell 4
  have r0 : w3.cell? ⟨w.heap.size, 0, none⟩ = some (.int .i64 7) := (HOP2.out.later b3 HOP2.out.lt).cell 0
  have hol : w.heap.size < w3.heap.size := (HOP2.out.later b3 HOP2.out.lt).lt
  have hpl : w.heap.size + 1 < w3.heap.size := (HPR2.out.later b3 HPR2.out.lt).lt
  clear b3 hb4 hb24 HC
  go_upto_region 24 with (fail)
  generalize (w3.alloc (.cells #[.int .i64 x.clock, .int .i64 x.ct.jobs, .int .i64 x.ct.done, .int .i64 x.jobs.length, .int .i64 x.ct.lost, .int .i64 x.ct.unknown, .int .i64 x.ct.bad, .int .i64 x.ct.spilled, .int .i64 (held x.lines)] 95)) = W4 at *
  have u0 : W4.cell? ⟨w.heap.size + 1, 0, none⟩ = some (.pointer (some ⟨e.1, 0, none⟩)) := HPR4.out.cell 0
  have hol4 : w.heap.size < W4.heap.size := by omega
  have hpl4 : w.heap.size + 1 < W4.heap.size := by omega
  have HCX := hide (HP4.out.cntX (by omega) HE.out HX.out HI.out)
  clear r0 r1 r2 r3 r4
  go_wp2_with fail
  refine HCX.out.mono ?_
  rintro r w5 ⟨rfl, own5, p5, g5⟩
  simp only [countsV]
  have hz5 := g5.1.size
  have hb6 : Below w5.heap.size w5 (w5.alloc (.cells #[.int .i64 x.clock, .int .i64 x.ct.jobs, .int .i64 x.ct.done, .int .i64 x.jobs.length, .int .i64 x.ct.lost, .int .i64 x.ct.unknown, .int .i64 x.ct.bad, .int .i64 x.ct.spilled, .int .i64 (held x.lines)] 95)) := (Below.refl _ _).alloc (Nat.le_refl _) _
  have hpr5 : Blk w5 (w.heap.size + 1) _ _ := (g5.1.block _ hpl4 fun e' => e' (HOWN.out _ (by omega))).trans HPR4.out
  have HPR6 := hide (hpr5.later hb6 hpr5.lt)
  have HP6 := hide (p5.below hb6)
  have HB6 : Hid (Fr (fun k => own k ≠ 0) w (w5.alloc (.cells #[.int .i64 x.clock, .int .i64 x.ct.jobs, .int .i64 x.ct.done, .int .i64 x.jobs.length, .int .i64 x.ct.lost, .int .i64 x.ct.unknown, .int .i64 x.ct.bad, .int .i64 x.ct.spilled, .int .i64 (held x.lines)] 95))) := ((Fr.of_below HB4.out).trans g5.1 fun _ _ e => e).then_below hb6
  have HK6 := hide (Blk.new w5 #[.int .i64 x.clock, .int .i64 x.ct.jobs, .int .i64 x.ct.done, .int .i64 x.jobs.length, .int .i64 x.ct.lost, .int .i64 x.ct.unknown, .int .i64 x.ct.bad, .int .i64 x.ct.spilled, .int .i64 (held x.lines)] 95)
  have HCY := hide (HP6.out.cntY HE.out HX.out HI.out)
  have hz6 : w5.heap.size < (w5.alloc (.cells #[.int .i64 x.clock, .int .i64 x.ct.jobs, .int .i64 x.ct.done, .int .i64 x.jobs.length, .int .i64 x.ct.lost, .int .i64 x.ct.unknown, .int .i64 x.ct.bad, .int .i64 x.ct.spilled, .int .i64 (held x.lines)] 95)).heap.size := by simp
  clear p5 g5 hb6 hpr5 u0 HCX
  go_upto_region 25 with (fail)
  generalize (w5.alloc (.cells #[.int .i64 x.clock, .int .i64 x.ct.jobs, .int .i64 x.ct.done, .int .i64 x.jobs.length, .int .i64 x.ct.lost, .int .i64 x.ct.unknown, .int .i64 x.ct.bad, .int .i64 x.ct.spilled, .int .i64 (held x.lines)] 95)) = W6 at *
  have u1 : W6.cell? ⟨w.heap.size + 1, 1, none⟩ = some (.pointer (some ⟨e.2, 0, none⟩)) := HPR6.out.cell 1
  have hpl6 := HPR6.out.lt
  go_wp2_with fail
  refine HCY.out.mono ?_
  rintro r w7 ⟨rfl, b7⟩
  simp only [countsV]
  have hz7 := b7.size
  have hb8 : Below w7.heap.size w7 (w7.alloc (.cells #[.int .i64 x.clock, .int .i64 x.ct.jobs, .int .i64 x.ct.done, .int .i64 x.jobs.length, .int .i64 x.ct.lost, .int .i64 x.ct.unknown, .int .i64 x.ct.bad, .int .i64 x.ct.spilled, .int .i64 (held x.lines)] 95)) := (Below.refl _ _).alloc (Nat.le_refl _) _
  have hb68 := b7.trans (hb8.mono hz7)
  have HP8 := hide (HP6.out.below hb68)
  have HB8 : Hid (Fr (fun k => own k ≠ 0) w (w7.alloc (.cells #[.int .i64 x.clock, .int .i64 x.ct.jobs, .int .i64 x.ct.done, .int .i64 x.jobs.length, .int .i64 x.ct.lost, .int .i64 x.ct.unknown, .int .i64 x.ct.bad, .int .i64 x.ct.spilled, .int .i64 (held x.lines)] 95))) := HB6.out.then_below hb68
  have HK8 := hide (HK6.out.later hb68 HK6.out.lt)
  have HM8 := hide (Blk.new w7 #[.int .i64 x.clock, .int .i64 x.ct.jobs, .int .i64 x.ct.done, .int .i64 x.jobs.length, .int .i64 x.ct.lost, .int .i64 x.ct.unknown, .int .i64 x.ct.bad, .int .i64 x.ct.spilled, .int .i64 (held x.lines)] 95)
  clear b7 hb8 hb68 u1 HCY
  go_upto_region 26 with (fail)
  generalize (w7.alloc (.cells #[.int .i64 x.clock, .int .i64 x.ct.jobs, .int .i64 x.ct.done, .int .i64 x.jobs.length, .int .i64 x.ct.lost, .int .i64 x.ct.unknown, .int .i64 x.ct.bad, .int .i64 x.ct.spilled, .int .i64 (held x.lines)] 95)) = W8 at *
  have k0 : W8.cell? ⟨w5.heap.size, 0, none⟩ = some (.int .i64 x.clock) := HK8.out.cell 0
  have m0 : W8.cell? ⟨w7.heap.size, 0, none⟩ = some (.int .i64 x.clock) := HM8.out.cell 0
  have k1 : W8.cell? ⟨w5.heap.size, 1, none⟩ = some (.int .i64 x.ct.jobs) := HK8.out.cell 1
  have m1 : W8.cell? ⟨w7.heap.size, 1, none⟩ = some (.int .i64 x.ct.jobs) := HM8.out.cell 1
  have k2 : W8.cell? ⟨w5.heap.size, 2, none⟩ = some (.int .i64 x.ct.done) := HK8.out.cell 2
  have m2 : W8.cell? ⟨w7.heap.size, 2, none⟩ = some (.int .i64 x.ct.done) := HM8.out.cell 2
  have k3 : W8.cell? ⟨w5.heap.size, 3, none⟩ = some (.int .i64 x.jobs.length) := HK8.out.cell 3
  have m3 : W8.cell? ⟨w7.heap.size, 3, none⟩ = some (.int .i64 x.jobs.length) := HM8.out.cell 3
  have k4 : W8.cell? ⟨w5.heap.size, 4, none⟩ = some (.int .i64 x.ct.lost) := HK8.out.cell 4
  have m4 : W8.cell? ⟨w7.heap.size, 4, none⟩ = some (.int .i64 x.ct.lost) := HM8.out.cell 4
  have k5 : W8.cell? ⟨w5.heap.size, 5, none⟩ = some (.int .i64 x.ct.unknown) := HK8.out.cell 5
  have m5 : W8.cell? ⟨w7.heap.size, 5, none⟩ = some (.int .i64 x.ct.unknown) := HM8.out.cell 5
  have k6 : W8.cell? ⟨w5.heap.size, 6, none⟩ = some (.int .i64 x.ct.bad) := HK8.out.cell 6
  have m6 : W8.cell? ⟨w7.heap.size, 6, none⟩ = some (.int .i64 x.ct.bad) := HM8.out.cell 6
  have k7 : W8.cell? ⟨w5.heap.size, 7, none⟩ = some (.int .i64 x.ct.spilled) := HK8.out.cell 7
  have m7 : W8.cell? ⟨w7.heap.size, 7, none⟩ = some (.int .i64 x.ct.spilled) := HM8.out.cell 7
  have k8 : W8.cell? ⟨w5.heap.size, 8, none⟩ = some (.int .i64 (held x.lines)) := HK8.out.cell 8
  have m8 : W8.cell? ⟨w7.heap.size, 8, none⟩ = some (.int .i64 (held x.lines)) := HM8.out.cell 8
  have hkl := HK8.out.lt
  have hml := HM8.out.lt
  have HSC := hide (sameCounts_true x.clock x.ct.jobs x.ct.done x.jobs.length x.ct.lost x.ct.unknown x.ct.bad x.ct.spilled (held x.lines) W8)
  go_wp2_with fail
  refine HSC.out.mono ?_
  rintro r w9 ⟨rfl, b9⟩
  have HP9 := hide (HP8.out.below b9)
  have HB9 : Hid (Fr (fun k => own k ≠ 0) w w9) := HB8.out.then_below b9
  clear b9 HSC
  go_wp2_with fail
  go_ret
  refine ⟨rfl, own5, ne, x, N, ?_, HI.out, by omega, by omega, HB9.out⟩
  rw [set_self HX.out]
  exact HP9.out

end Go.Proofs.YthloffgebebijaaGreat
