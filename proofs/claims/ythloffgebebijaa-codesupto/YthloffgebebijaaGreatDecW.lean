/- DecW: the walk of tillerlaw's (*World).decode. -/
import Derived.Test.YthloffgebebijaaGreatDecA
import Derived.Test.YthloffgebebijaaGreatRefD
import Derived.Deep.RegionWith
namespace Go.Proofs.YthloffgebebijaaGreat
open Go.RowKit

theorem refDecode_two (B : Nat) (v : Value) (bs : List Int) (w : World) (h : Rd8 w B v bs) (hB : B ≤ w.heap.size) (hb : AllB bs) (hlen : bs.length ≤ 1000000000) :
    Calls Tryz.prog 30 #[v] w fun e w' => ∃ dv, e = .returned (.tuple #[dv, .int .i64 (dval (dec bs)).2]) ∧ Cf w' w'.heap.size dv (dval (dec bs)).1 ∧ Below w.heap.size w w' := by
  refine (refDecode_any B v bs w h hB hb hlen).mono ?_
  intro e w' hp
  cases hd : dec bs with
  | none =>
    rw [hd] at hp
    exact ⟨zeroCfg, hp.1, ⟨_, rfl, none, 0, rfl, .inl rfl⟩, hp.2⟩
  | some c =>
    rw [hd] at hp
    exact hp

set_option maxRecDepth 100000 in
set_option maxHeartbeats 6400000 in
theorem decodeW_true (S : Nat → Prop) (B0 B W : Nat) (ps : Value) (nb ni ne nl nt : Nat) (v : Value) (o : Stp) (w : World) (h : BookAt w S B W ps nb ni ne nl nt) (hB : B ≤ w.heap.size) (hv : Op1 w B0 v o) (_hB0 : B0 ≤ w.heap.size) (hok : StpOk o) (hnl : nl ≤ 100000000) (hnt : nt ≤ 100000000) :
    Calls Tryz.prog 12 #[.pointer (some ⟨W, 0, none⟩), v] w fun e w' => e = .returned (.bool true) ∧ ∃ S' nl', nl' ≤ nl + 12 ∧ BookAt w' S' B W ps nb ni ne nl' (nt + 2) ∧ Below B w w' := by
  obtain ⟨t, rfl, ht⟩ := hv
  obtain ⟨kind, a, b, c, s, cfg⟩ := o
  obtain ⟨x1, x2, x3, x4, x5, ts⟩ := cfg
  obtain ⟨hs, hl, hl2⟩ := hok
  simp only at ht hs hl hl2 ⊢
  have HBK := hide h
  obtain ⟨ta, tc, rfl⟩ := ht.slice
  have HS : Hid (∀ k, S k → B ≤ k ∧ k < w.heap.size) := h.1
  have HSW : Hid (S W) := h.2.1
  have HB1 : Hid (Below w.heap.size w (w.alloc (.cells #[.int .i64 kind, .int .i64 a, .int .i64 b, .int .i64 c, .string s, .int .i64 x1, .int .i64 x2, .int .i64 x3, .int .i64 x4, .int .i64 x5, .slice ta ts.length tc] 43))) := (Below.refl _ _).alloc (Nat.le_refl _) _
  have HSL : Hid ((sbytes s).length = s.size) := sbytes_length s
  clear h ht hl2
  go_enter Tryz.func12, Tryz.ntmps12
  go_wp2_with fail
  refine (lent_any s _ _ (by omega)).mono ?_
  rintro e w1 ⟨bv, rfl, hlb, q1⟩
  have hzo : (w.alloc (.cells #[.int .i64 kind, .int .i64 a, .int .i64 b, .int .i64 c, .string s, .int .i64 x1, .int .i64 x2, .int .i64 x3, .int .i64 x4, .int .i64 x5, .slice ta ts.length tc] 43)).heap.size = w.heap.size + 1 := by simp
  rw [hzo] at q1 hlb
  have HLB1 := hide hlb
  have HO1 := hide ((Blk.new w #[.int .i64 kind, .int .i64 a, .int .i64 b, .int .i64 c, .string s, .int .i64 x1, .int .i64 x2, .int .i64 x3, .int .i64 x4, .int .i64 x5, .slice ta ts.length tc] 43).later q1 (by simp))
  have HBW1 : Hid (Below w.heap.size w w1) := HB1.out.trans (q1.mono (by omega))
  have hz1 := q1.size
  obtain ⟨bva, bvc, hbv⟩ : ∃ x y, bv = .slice x s.size y := by
    rcases hlb with ⟨rfl, h0⟩ | ⟨g, rfl, _⟩
    · exact ⟨none, 0, by rw [h0]⟩
    · exact ⟨_, _, rfl⟩
  subst hbv
  clear q1 hlb
  have HDS := hide (dval_small (sbytes_all s))
  have HD2 : Hid (∀ (w' : World), Rd8 w' w'.heap.size (.slice bva s.size bvc) (sbytes s) → Calls Tryz.prog 28 #[.slice bva s.size bvc] w' fun e w'' => ∃ tv, e = .returned (.tuple #[.agg #[.int .i64 (dval (dec (sbytes s))).1.lines, .int .i64 (dval (dec (sbytes s))).1.room, .int .i64 (dval (dec (sbytes s))).1.poll, .int .i64 (dval (dec (sbytes s))).1.idle, .int .i64 (dval (dec (sbytes s))).1.sw, tv], .int .i64 (dval (dec (sbytes s))).2]) ∧ Out w'' w'.heap.size tv (dval (dec (sbytes s))).1.tasks ∧ Below w'.heap.size w' w'') := fun w' hr => decode_two _ _ (sbytes s) w' hr (Nat.le_refl _) (sbytes_all s) (by rw [sbytes_length]; omega)
  have HRD : Hid (∀ (w' : World) (v : Value), Rd8 w' w'.heap.size v (sbytes s) → Calls Tryz.prog 30 #[v] w' fun e w'' => ∃ dv, e = .returned (.tuple #[dv, .int .i64 (dval (dec (sbytes s))).2]) ∧ Cf w'' w''.heap.size dv (dval (dec (sbytes s))).1 ∧ Below w'.heap.size w' w'') := fun w' v hr => refDecode_two _ v (sbytes s) w' hr (Nat.le_refl _) (sbytes_all s) (by rw [sbytes_length]; omega)
  generalize hdv : dval (dec (sbytes s)) = dv at *
  obtain ⟨⟨y1, y2, y3, y4, y5, us⟩, er⟩ := dv
  simp only at HDS HD2 HRD
  clear hdv
  go_wp2_with fail
  refine (HD2.out w1 HLB1.out.rd).mono ?_
  rintro e w2 ⟨tv2, rfl, o2, q2⟩
  obtain ⟨t2a, t2c, ht2⟩ := o2.slice
  subst ht2
  have HO2 := hide o2
  have HLB2 := hide (HLB1.out.below q2)
  have HOP2 := hide (HO1.out.later q2 (by omega))
  have HBW2 : Hid (Below w.heap.size w w2) := HBW1.out.trans (q2.mono (by omega))
  have hz2 := q2.size
  clear q2 o2
  go_wp2_with fail
  have HN2 := hide (Blk.new w2 #[.int .i64 y1, .int .i64 y2, .int .i64 y3, .int .i64 y4, .int .i64 y5, .slice t2a us.length t2c] 40)
  have HA2 : Hid (Below w2.heap.size w2 (w2.alloc (.cells #[.int .i64 y1, .int .i64 y2, .int .i64 y3, .int .i64 y4, .int .i64 y5, .slice t2a us.length t2c] 40))) := (Below.refl _ _).alloc (Nat.le_refl _) _
  have hz2a : (w2.alloc (.cells #[.int .i64 y1, .int .i64 y2, .int .i64 y3, .int .i64 y4, .int .i64 y5, .slice t2a us.length t2c] 40)).heap.size = w2.heap.size + 1 := by simp
  generalize hW2 : w2.alloc (.cells #[.int .i64 y1, .int .i64 y2, .int .i64 y3, .int .i64 y4, .int .i64 y5, .slice t2a us.length t2c] 40) = w2a at *
  clear hW2
  refine (HD2.out w2a (HLB2.out.below HA2.out).rd).mono ?_
  rintro e w3 ⟨tv3, rfl, o3, q3⟩
  obtain ⟨t3a, t3c, ht3⟩ := o3.slice
  subst ht3
  have HO3 := hide o3
  have HO23 := hide ((HO2.out.below HA2.out).below q3)
  have HN23 := hide (HN2.out.later q3 (by omega))
  have HLB3 := hide ((HLB2.out.below HA2.out).below q3)
  have HOP3 := hide ((HOP2.out.later HA2.out (by omega)).later q3 (by omega))
  have HBW3 : Hid (Below w.heap.size w w3) := (HBW2.out.trans (HA2.out.mono (by omega))).trans (q3.mono (by omega))
  have hz3 := q3.size
  have HQ3 := hide q3
  clear q3 o3
  have p4 : w3.cell? ⟨w.heap.size, 4, none⟩ = some (.string s) := HOP3.out.cell 4
  have hp3 : w.heap.size < w3.heap.size := by omega
  go_wp2_with fail
  have HN3 := hide (Blk.new w3 #[.int .i64 y1, .int .i64 y2, .int .i64 y3, .int .i64 y4, .int .i64 y5, .slice t3a us.length t3c] 40)
  have HA3 : Hid (Below w3.heap.size w3 (w3.alloc (.cells #[.int .i64 y1, .int .i64 y2, .int .i64 y3, .int .i64 y4, .int .i64 y5, .slice t3a us.length t3c] 40))) := (Below.refl _ _).alloc (Nat.le_refl _) _
  have hz3a : (w3.alloc (.cells #[.int .i64 y1, .int .i64 y2, .int .i64 y3, .int .i64 y4, .int .i64 y5, .slice t3a us.length t3c] 40)).heap.size = w3.heap.size + 1 := by simp
  generalize hW3 : w3.alloc (.cells #[.int .i64 y1, .int .i64 y2, .int .i64 y3, .int .i64 y4, .int .i64 y5, .slice t3a us.length t3c] 40) = w3a at *
  clear hW3
  try (go_wp2_with fail)
  refine (back_true (w.heap.size + 1) _ s w3a (HLB3.out.below HA3.out) (by omega)).mono ?_
  rintro e w4 ⟨rfl, f4⟩
  have HLR : Hid (∀ k, (Value.slice bva s.size bvc).ownBlock = some k → w.heap.size + 1 ≤ k ∧ k < w1.heap.size) := by
    intro k hk
    rcases HLB1.out with ⟨h1, h0⟩ | ⟨g, h1, hg, hb⟩
    · rw [h1] at hk; simp [Value.ownBlock] at hk
    · rw [h1] at hk; simp only [Value.ownBlock, Option.some.injEq] at hk; subst hk; exact ⟨hg, hb.lt⟩
  have hz4 := f4.size
  have kf : ∀ k, k < w3a.heap.size → (k < w.heap.size + 1 ∨ w1.heap.size ≤ k) → w4.heap[k]? = w3a.heap[k]? := fun k hk hor => f4.block k hk (fun e => by have := HLR.out k e; omega)
  have HO24 := hide ((HO23.out.below HA3.out).kept (w' := w4) fun k h1 h2 => kf k h2 (.inr h1))
  have HO34 := hide ((HO3.out.below HA3.out).kept (w' := w4) fun k h1 h2 => kf k h2 (.inr (by omega)))
  have HN24 : Hid (Blk w4 w2.heap.size #[.int .i64 y1, .int .i64 y2, .int .i64 y3, .int .i64 y4, .int .i64 y5, .slice t2a us.length t2c] 40) := (kf _ (by omega) (.inr (by omega))).trans (HN23.out.later HA3.out (by omega))
  have HN34 : Hid (Blk w4 w3.heap.size #[.int .i64 y1, .int .i64 y2, .int .i64 y3, .int .i64 y4, .int .i64 y5, .slice t3a us.length t3c] 40) := (kf _ (by omega) (.inr (by omega))).trans HN3.out
  have HOP4 : Hid (Blk w4 w.heap.size #[.int .i64 kind, .int .i64 a, .int .i64 b, .int .i64 c, .string s, .int .i64 x1, .int .i64 x2, .int .i64 x3, .int .i64 x4, .int .i64 x5, .slice ta ts.length tc] 43) := (kf _ (by omega) (.inl (by omega))).trans (HOP3.out.later HA3.out (by omega))
  have HBW4 : Hid (Below w.heap.size w w4) := (HBW3.out.trans (HA3.out.mono (by omega))).trans (f4.below (by omega) (fun k hk => by have := HLR.out k hk; omega))
  have HKF := hide kf
  clear f4 kf p4
  have r4 : w4.cell? ⟨w.heap.size, 4, none⟩ = some (.string s) := HOP4.out.cell 4
  obtain ⟨cap5, w5, hcv, q5, rd5⟩ := conv_str s w4
  have HQ5 := hide q5
  have HRD5 := hide rd5
  have hz5 := q5.size
  clear q5 rd5
  go_wp2_with fail
  refine (HRD.out w5 _ HRD5.out).mono ?_
  rintro e w6 ⟨dv, rfl, cf6, q6⟩
  obtain ⟨dt, hdv, hdt⟩ := cf6
  simp only at hdv hdt
  obtain ⟨da, dc, hde⟩ := hdt.slice
  subst hde
  subst hdv
  have HDT6 := hide hdt
  have HQ6 : Hid (Below w4.heap.size w4 w6) := HQ5.out.trans (q6.mono (by omega))
  have hz6 := q6.size
  clear q6 hdt hcv r4
  have HN26 := hide (HN24.out.later HQ6.out (by omega))
  have HN36 := hide (HN34.out.later HQ6.out (by omega))
  have HO26 := hide (HO24.out.below HQ6.out)
  have HO36 := hide (HO34.out.below HQ6.out)
  have HBW6 : Hid (Below w.heap.size w w6) := HBW4.out.trans (HQ6.out.mono (by omega))
  have c0 : w6.cell? ⟨w2.heap.size, 0, none⟩ = some (.int .i64 y1) := HN26.out.cell 0
  have c1 : w6.cell? ⟨w2.heap.size, 1, none⟩ = some (.int .i64 y2) := HN26.out.cell 1
  have c2 : w6.cell? ⟨w2.heap.size, 2, none⟩ = some (.int .i64 y3) := HN26.out.cell 2
  have c3 : w6.cell? ⟨w2.heap.size, 3, none⟩ = some (.int .i64 y4) := HN26.out.cell 3
  have c4 : w6.cell? ⟨w2.heap.size, 4, none⟩ = some (.int .i64 y5) := HN26.out.cell 4
  have c5 : w6.cell? ⟨w2.heap.size, 5, none⟩ = some (.slice t2a us.length t2c) := HN26.out.cell 5
  have x0 : w6.cell? ⟨w3.heap.size, 0, none⟩ = some (.int .i64 y1) := HN36.out.cell 0
  have x1 : w6.cell? ⟨w3.heap.size, 1, none⟩ = some (.int .i64 y2) := HN36.out.cell 1
  have x2 : w6.cell? ⟨w3.heap.size, 2, none⟩ = some (.int .i64 y3) := HN36.out.cell 2
  have x3 : w6.cell? ⟨w3.heap.size, 3, none⟩ = some (.int .i64 y4) := HN36.out.cell 3
  have x4 : w6.cell? ⟨w3.heap.size, 4, none⟩ = some (.int .i64 y5) := HN36.out.cell 4
  have x5 : w6.cell? ⟨w3.heap.size, 5, none⟩ = some (.slice t3a us.length t3c) := HN36.out.cell 5
  have hl26 : w2.heap.size < w6.heap.size := by omega
  have hl36 : w3.heap.size < w6.heap.size := by omega
  have HA6 : Hid (Below w6.heap.size w6 (w6.alloc (.cells #[.int .i64 y1, .int .i64 y2, .int .i64 y3, .int .i64 y4, .int .i64 y5, .slice da us.length dc] 40))) := (Below.refl _ _).alloc (Nat.le_refl _) _
  have hz6a : (w6.alloc (.cells #[.int .i64 y1, .int .i64 y2, .int .i64 y3, .int .i64 y4, .int .i64 y5, .slice da us.length dc] 40)).heap.size = w6.heap.size + 1 := by simp
  have HCD : Hid (Cf (w6.alloc (.cells #[.int .i64 y1, .int .i64 y2, .int .i64 y3, .int .i64 y4, .int .i64 y5, .slice da us.length dc] 40)) (w6.alloc (.cells #[.int .i64 y1, .int .i64 y2, .int .i64 y3, .int .i64 y4, .int .i64 y5, .slice da us.length dc] 40)).heap.size (.agg #[.int .i64 y1, .int .i64 y2, .int .i64 y3, .int .i64 y4, .int .i64 y5, .slice da us.length dc]) ⟨y1, y2, y3, y4, y5, us⟩) := ⟨_, rfl, (HDT6.out.later HA6.out (by omega)).up (by omega)⟩
  have HCC : Hid (Cf (w6.alloc (.cells #[.int .i64 y1, .int .i64 y2, .int .i64 y3, .int .i64 y4, .int .i64 y5, .slice da us.length dc] 40)) (w6.alloc (.cells #[.int .i64 y1, .int .i64 y2, .int .i64 y3, .int .i64 y4, .int .i64 y5, .slice da us.length dc] 40)).heap.size (.agg #[.int .i64 y1, .int .i64 y2, .int .i64 y3, .int .i64 y4, .int .i64 y5, .slice t2a us.length t2c]) ⟨y1, y2, y3, y4, y5, us⟩) := ⟨_, rfl, (HO26.out.below HA6.out).tasks⟩
  have HCX : Hid (Cf (w6.alloc (.cells #[.int .i64 y1, .int .i64 y2, .int .i64 y3, .int .i64 y4, .int .i64 y5, .slice da us.length dc] 40)) (w6.alloc (.cells #[.int .i64 y1, .int .i64 y2, .int .i64 y3, .int .i64 y4, .int .i64 y5, .slice da us.length dc] 40)).heap.size (.agg #[.int .i64 y1, .int .i64 y2, .int .i64 y3, .int .i64 y4, .int .i64 y5, .slice t3a us.length t3c]) ⟨y1, y2, y3, y4, y5, us⟩) := ⟨_, rfl, (HO36.out.below HA6.out).tasks⟩
  have HND : Hid (Blk (w6.alloc (.cells #[.int .i64 y1, .int .i64 y2, .int .i64 y3, .int .i64 y4, .int .i64 y5, .slice da us.length dc] 40)) w6.heap.size #[.int .i64 y1, .int .i64 y2, .int .i64 y3, .int .i64 y4, .int .i64 y5, .slice da us.length dc] 40) := Blk.new _ _ _
  have husl : us.length ≤ 140737488355328 := by have := HDS.out.1; omega
  have HUL : Hid (∀ t ∈ us, t.lims.length ≤ 140737488355328) := fun t ht => by have := HDS.out.2 t ht; omega
  go_wp2_with fail
  generalize hW6 : w6.alloc (.cells #[.int .i64 y1, .int .i64 y2, .int .i64 y3, .int .i64 y4, .int .i64 y5, .slice da us.length dc] 40) = w6a at *
  clear hW6 c0 c1 c2 c3 c4 c5 x0 x1 x2 x3 x4 x5
  refine (sameConfig_true _ _ _ ⟨y1, y2, y3, y4, y5, us⟩ w6a HCC.out HCD.out (Nat.le_refl _) husl HUL.out).mono ?_
  rintro e w7 ⟨rfl, q7⟩
  have hz7 := q7.size
  have HN27 := hide ((HN26.out.later HA6.out (by omega)).later q7 (by omega))
  have HN37 := hide ((HN36.out.later HA6.out (by omega)).later q7 (by omega))
  have HND7 := hide (HND.out.later q7 (by omega))
  have HO27 := hide ((HO26.out.below HA6.out).below q7)
  have HO37 := hide ((HO36.out.below HA6.out).below q7)
  have HCD7 := hide (HCD.out.later q7 (Nat.le_refl _))
  have HCX7 := hide (HCX.out.later q7 (Nat.le_refl _))
  have HBW7 : Hid (Below w.heap.size w w7) := (HBW6.out.trans (HA6.out.mono (by omega))).trans (q7.mono (by omega))
  have HQ7 := hide q7
  clear q7
  have z0 : w7.cell? ⟨w3.heap.size, 0, none⟩ = some (.int .i64 y1) := HN37.out.cell 0
  have z1 : w7.cell? ⟨w3.heap.size, 1, none⟩ = some (.int .i64 y2) := HN37.out.cell 1
  have z2 : w7.cell? ⟨w3.heap.size, 2, none⟩ = some (.int .i64 y3) := HN37.out.cell 2
  have z3 : w7.cell? ⟨w3.heap.size, 3, none⟩ = some (.int .i64 y4) := HN37.out.cell 3
  have z4 : w7.cell? ⟨w3.heap.size, 4, none⟩ = some (.int .i64 y5) := HN37.out.cell 4
  have z5 : w7.cell? ⟨w3.heap.size, 5, none⟩ = some (.slice t3a us.length t3c) := HN37.out.cell 5
  have d0 : w7.cell? ⟨w6.heap.size, 0, none⟩ = some (.int .i64 y1) := HND7.out.cell 0
  have d1 : w7.cell? ⟨w6.heap.size, 1, none⟩ = some (.int .i64 y2) := HND7.out.cell 1
  have d2 : w7.cell? ⟨w6.heap.size, 2, none⟩ = some (.int .i64 y3) := HND7.out.cell 2
  have d3 : w7.cell? ⟨w6.heap.size, 3, none⟩ = some (.int .i64 y4) := HND7.out.cell 3
  have d4 : w7.cell? ⟨w6.heap.size, 4, none⟩ = some (.int .i64 y5) := HND7.out.cell 4
  have d5 : w7.cell? ⟨w6.heap.size, 5, none⟩ = some (.slice da us.length dc) := HND7.out.cell 5
  go_wp2_with fail
  refine (sameConfig_true _ _ _ ⟨y1, y2, y3, y4, y5, us⟩ w7 HCX7.out HCD7.out (by omega) husl HUL.out).mono ?_
  rintro e w8 ⟨rfl, q8⟩
  have hz8 := q8.size
  have HN28 := hide (HN27.out.later q8 (by omega))
  have HN38 := hide (HN37.out.later q8 (by omega))
  have HO28 := hide (HO27.out.below q8)
  have HO38 := hide (HO37.out.below q8)
  have HBW8 : Hid (Below w.heap.size w w8) := HBW7.out.trans (q8.mono (by omega))
  have HQ8 := hide q8
  clear q8 z0 z1 z2 z3 z4 z5 d0 d1 d2 d3 d4 d5
  have HBK8 : Hid (BookAt w8.drew S B W ps nb ni ne nl nt) := HBK.out.same (w' := w8.drew) (fun k hk => HBW8.out.block k (HS.out k hk).2) (show w.heap.size ≤ w8.heap.size by omega)
  have HK48 : Hid (∀ k, k < w4.heap.size → w8.heap[k]? = w4.heap[k]?) := fun k hk => (((HQ8.out.block k (by omega)).trans (HQ7.out.block k (by omega))).trans (HA6.out.block k (by omega))).trans (HQ6.out.block k hk)
  have HK28 : Hid (∀ k, w1.heap.size ≤ k → k < w2.heap.size → w8.heap[k]? = w2.heap[k]?) := fun k h1 h2 => (((HK48.out k (by omega)).trans (HKF.out k (by omega) (.inr h1))).trans (HA3.out.block k (by omega))).trans ((HQ3.out.block k (by omega)).trans (HA2.out.block k h2))
  have HK38 : Hid (∀ k, w2a.heap.size ≤ k → k < w3.heap.size → w8.heap[k]? = w3.heap[k]?) := fun k h1 h2 => ((HK48.out k (by omega)).trans (HKF.out k (by omega) (.inr (by omega)))).trans (HA3.out.block k h2)
  obtain ⟨es2, b1, b2, b3, b4⟩ := HO2.out.bk HDS.out.1 HDS.out.2
  have HTB2 := hide (fun k (hk : TBk (.slice t2a us.length t2c) es2 k) => TBk.range b1 b3 hk)
  have HES2 : Hid (w8.ownsRow B 55 3 (.slice t2a us.length t2c) es2.length (flat3 es2) ∧ (∀ k, (Value.slice t2a us.length t2c).ownBlock = some k → w1.heap.size ≤ k) ∧ (∀ e ∈ es2, ∃ n xs, w8.ownsRow B 52 2 e.2.2 n xs ∧ n ≤ 3 ∧ ∀ k, e.2.2.ownBlock = some k → w1.heap.size ≤ k) ∧ Apart es2) := by
    refine ⟨owns_lower (owns_same b1 fun k hk => HK28.out k (World.ownsRow.lt b1 k hk).1 (World.ownsRow.lt b1 k hk).2) (by omega), fun k hk => (World.ownsRow.lt b1 k hk).1, fun e he => ?_, b4⟩
    obtain ⟨n, xs, ho, hn⟩ := b3 e he
    exact ⟨n, xs, owns_lower (owns_same ho fun k hk => HK28.out k (World.ownsRow.lt ho k hk).1 (World.ownsRow.lt ho k hk).2) (by omega), hn, fun k hk => (World.ownsRow.lt ho k hk).1⟩
  have hes6 : es2.length ≤ 6 := by rw [b2]; exact HDS.out.1
  have hcT : w8.cell? ⟨w2.heap.size, 5, none⟩ = some (.slice t2a us.length t2c) := HN28.out.cell 5
  have HT1 := hide (bookT_any S B W ps nb ni ne nl nt (.slice t2a us.length t2c) es2 w8.drew HBK8.out (show B ≤ w8.heap.size by omega) HES2.out.1 (fun k hk hs => by have h1 := (HS.out k hs).2; have h2 := HES2.out.2.1 k hk; omega)
    (fun e he => by
      obtain ⟨n, xs, ho, hn, hk'⟩ := HES2.out.2.2.1 e he
      exact ⟨n, xs, ho, by omega, fun k hk hs => by have h1 := (HS.out k hs).2; have h2 := hk' k hk; omega⟩) HES2.out.2.2.2 (by omega) (by omega) (by omega))
  clear b1 b2 b3 b4
  go_wp2_with fail
  apply wp_some1 (fun (w9 : World) => ∃ S', BookAt w9 S' B W ps nb ni ne (nl + es2.length) (nt + 1) ∧ (∀ k, S k → S' k) ∧ (∀ k, S' k → S k ∨ TBk (.slice t2a us.length t2c) es2 k ∨ w8.heap.size ≤ k) ∧ Fr (fun k => S k ∨ TBk (.slice t2a us.length t2c) es2 k) w8 w9)
  case h =>
    go_region_with (go_at_call 32; refine HT1.out.mono ?_; rintro e w9 ⟨rfl, hpost⟩; have HP := hide hpost; clear hpost)
    all_goals
      obtain ⟨S', p1, p2, p3, p4⟩ := HP.out
      exact ⟨w9, ⟨S', p1, p2, p3, ⟨p4.os, p4.tape, p4.output, p4.size, p4.block⟩⟩, rfl, rfl⟩
  rintro w9 ⟨S2, p1, p2, p3, p4⟩
  have hz9 := p4.size
  have HF9 := hide p4
  have HBK9 : Hid (BookAt w9.drew S2 B W ps nb ni ne (nl + es2.length) (nt + 1)) := p1.same (w' := w9.drew) (fun _ _ => rfl) (Nat.le_refl _)
  have HS2 : Hid (∀ k, S2 k → B ≤ k ∧ k < w9.heap.size) := p1.1
  have HP3 := hide p3
  have kf : ∀ k, w2.heap.size ≤ k → k < w8.heap.size → w9.heap[k]? = w8.heap[k]? := fun k h0 hk => HF9.out.block k hk (by
    rintro (h | h)
    · have := (HS.out k h).2; omega
    · have := (HTB2.out k h).2; omega)
  have HN39 : Hid (Blk w9 w3.heap.size #[.int .i64 y1, .int .i64 y2, .int .i64 y3, .int .i64 y4, .int .i64 y5, .slice t3a us.length t3c] 40) := (kf _ (by omega) (by omega)).trans HN38.out
  have HBW9 : Hid (Below B w w9) := (HBW8.out.mono hB).trans (p4.below (by omega) (by
    rintro k (hk | hk)
    · exact (HS.out k hk).1
    · have := (HTB2.out k hk).1; omega))
  obtain ⟨es3, c1, c2, c3, c4⟩ := HO3.out.bk HDS.out.1 HDS.out.2
  have HTB3 := hide (fun k (hk : TBk (.slice t3a us.length t3c) es3 k) => TBk.range c1 c3 hk)
  have HK39 : Hid (∀ k, w2a.heap.size ≤ k → k < w3.heap.size → w9.heap[k]? = w3.heap[k]?) := fun k h1 h2 => (kf k (by omega) (by omega)).trans (HK38.out k h1 h2)
  have HES3 : Hid (w9.ownsRow B 55 3 (.slice t3a us.length t3c) es3.length (flat3 es3) ∧ (∀ k, (Value.slice t3a us.length t3c).ownBlock = some k → w2a.heap.size ≤ k ∧ k < w3.heap.size) ∧ (∀ e ∈ es3, ∃ n xs, w9.ownsRow B 52 2 e.2.2 n xs ∧ n ≤ 3 ∧ ∀ k, e.2.2.ownBlock = some k → w2a.heap.size ≤ k ∧ k < w3.heap.size) ∧ Apart es3) := by
    refine ⟨owns_lower (owns_same c1 fun k hk => HK39.out k (World.ownsRow.lt c1 k hk).1 (World.ownsRow.lt c1 k hk).2) (by omega), fun k hk => World.ownsRow.lt c1 k hk, fun e he => ?_, c4⟩
    obtain ⟨n, xs, ho, hn⟩ := c3 e he
    exact ⟨n, xs, owns_lower (owns_same ho fun k hk => HK39.out k (World.ownsRow.lt ho k hk).1 (World.ownsRow.lt ho k hk).2) (by omega), hn, fun k hk => World.ownsRow.lt ho k hk⟩
  have hes36 : es3.length ≤ 6 := by rw [c2]; exact HDS.out.1
  have hcT3 : w9.cell? ⟨w3.heap.size, 5, none⟩ = some (.slice t3a us.length t3c) := HN39.out.cell 5
  have HNS3 : Hid (∀ k, w2a.heap.size ≤ k → k < w3.heap.size → ¬ S2 k) := by
    intro k h1 h2 hs
    rcases HP3.out k hs with h | h | h
    · have := (HS.out k h).2; omega
    · have := (HTB2.out k h).2; omega
    · omega
  have HT2 := hide (bookT_any S2 B W ps nb ni ne (nl + es2.length) (nt + 1) (.slice t3a us.length t3c) es3 w9.drew HBK9.out (show B ≤ w9.heap.size by omega) HES3.out.1 (fun k hk => by have := HES3.out.2.1 k hk; exact HNS3.out k this.1 this.2)
    (fun e he => by
      obtain ⟨n, xs, ho, hn, hk'⟩ := HES3.out.2.2.1 e he
      exact ⟨n, xs, ho, by omega, fun k hk => HNS3.out k (hk' k hk).1 (hk' k hk).2⟩) HES3.out.2.2.2 (by omega) (by omega) (by omega))
  clear c1 c2 c3 c4 p1 p2 p3 p4 kf hcT
  go_wp2_with fail
  apply wp_some1 (fun (w10 : World) => ∃ S', BookAt w10 S' B W ps nb ni ne (nl + es2.length + es3.length) (nt + 1 + 1) ∧ Fr (fun k => S2 k ∨ TBk (.slice t3a us.length t3c) es3 k) w9 w10)
  case h =>
    go_region_with (go_at_call 32; refine HT2.out.mono ?_; rintro e w10 ⟨rfl, hpost⟩; have HP := hide hpost; clear hpost)
    all_goals
      obtain ⟨S', p1, p2, p3, p4⟩ := HP.out
      exact ⟨w10, ⟨S', p1, ⟨p4.os, p4.tape, p4.output, p4.size, p4.block⟩⟩, rfl, rfl⟩
  rintro w10 ⟨S3, p1, p4⟩
  have HBW10 : Hid (Below B w w10) := HBW9.out.trans (p4.below (by omega) (by
    rintro k (hk | hk)
    · exact (HS2.out k hk).1
    · have := (HTB3.out k hk).1; omega))
  have HBKF := hide p1
  clear p1 p4 hcT3
  go_wp2
  go_ret
  exact ⟨rfl, S3, _, by omega, HBKF.out, HBW10.out⟩

end Go.Proofs.YthloffgebebijaaGreat
