/- Plays: the walks of tillerlaw's example and plays, over any contract of its step. -/
import Derived.Test.YthloffgebebijaaGreatEncW
import Derived.Deep.RegionWith
import Derived.Deep.DeepMust
namespace Go.Proofs.YthloffgebebijaaGreat
open Go.RowKit

def exCfg : Cfg := ⟨1, 2, 2, 1, 1, [⟨5, 30, [(20, 1)]⟩]⟩

set_option maxRecDepth 100000 in
set_option maxHeartbeats 400000 in
theorem example_any (w : World) :
    Calls Tryz.prog 9 #[] w fun e w' => ∃ a c, e = .returned (.agg #[.int .i64 1, .int .i64 2, .int .i64 2, .int .i64 1, .int .i64 1, .slice a 1 c]) ∧ Tasks w' w'.heap.size (.slice a 1 c) exCfg.tasks ∧ Below w.heap.size w w' := by
  go_enter Tryz.func9, Tryz.ntmps9
  repeat (first | go_values | go_skip | go_guarded | go_step | go_upon)
  have B1 : Blk (((w.alloc (.cells #[.int .i64 1, .int .i64 2, .int .i64 2, .int .i64 1, .int .i64 1, .slice (some ⟨w.heap.size + 1 + 1, 0, none⟩) 1 1] 40)).alloc (.cells #[.int .i64 20, .int .i64 1] 52)).alloc (.cells #[.int .i64 5, .int .i64 30, .slice (some ⟨w.heap.size + 1, 0, none⟩) 1 1] 55)) w.heap.size #[.int .i64 1, .int .i64 2, .int .i64 2, .int .i64 1, .int .i64 1, .slice (some ⟨w.heap.size + 1 + 1, 0, none⟩) 1 1] 40 := ((Blk.new w #[.int .i64 1, .int .i64 2, .int .i64 2, .int .i64 1, .int .i64 1, .slice (some ⟨w.heap.size + 1 + 1, 0, none⟩) 1 1] 40).alloc _).alloc _
  have B2 : Blk (((w.alloc (.cells #[.int .i64 1, .int .i64 2, .int .i64 2, .int .i64 1, .int .i64 1, .slice (some ⟨w.heap.size + 1 + 1, 0, none⟩) 1 1] 40)).alloc (.cells #[.int .i64 20, .int .i64 1] 52)).alloc (.cells #[.int .i64 5, .int .i64 30, .slice (some ⟨w.heap.size + 1, 0, none⟩) 1 1] 55)) (w.heap.size + 1) #[.int .i64 20, .int .i64 1] 52 := by
    have := (Blk.new (w.alloc (.cells #[.int .i64 1, .int .i64 2, .int .i64 2, .int .i64 1, .int .i64 1, .slice (some ⟨w.heap.size + 1 + 1, 0, none⟩) 1 1] 40)) #[.int .i64 20, .int .i64 1] 52).alloc (.cells #[.int .i64 5, .int .i64 30, .slice (some ⟨w.heap.size + 1, 0, none⟩) 1 1] 55)
    simpa using this
  have B3 : Blk (((w.alloc (.cells #[.int .i64 1, .int .i64 2, .int .i64 2, .int .i64 1, .int .i64 1, .slice (some ⟨w.heap.size + 1 + 1, 0, none⟩) 1 1] 40)).alloc (.cells #[.int .i64 20, .int .i64 1] 52)).alloc (.cells #[.int .i64 5, .int .i64 30, .slice (some ⟨w.heap.size + 1, 0, none⟩) 1 1] 55)) (w.heap.size + 1 + 1) #[.int .i64 5, .int .i64 30, .slice (some ⟨w.heap.size + 1, 0, none⟩) 1 1] 55 := by
    have := Blk.new ((w.alloc (.cells #[.int .i64 1, .int .i64 2, .int .i64 2, .int .i64 1, .int .i64 1, .slice (some ⟨w.heap.size + 1 + 1, 0, none⟩) 1 1] 40)).alloc (.cells #[.int .i64 20, .int .i64 1] 52)) #[.int .i64 5, .int .i64 30, .slice (some ⟨w.heap.size + 1, 0, none⟩) 1 1] 55
    simpa using this
  have hb : Below w.heap.size w (((w.alloc (.cells #[.int .i64 1, .int .i64 2, .int .i64 2, .int .i64 1, .int .i64 1, .slice (some ⟨w.heap.size + 1 + 1, 0, none⟩) 1 1] 40)).alloc (.cells #[.int .i64 20, .int .i64 1] 52)).alloc (.cells #[.int .i64 5, .int .i64 30, .slice (some ⟨w.heap.size + 1, 0, none⟩) 1 1] 55)) := (((Below.refl _ _).alloc (Nat.le_refl _) _).alloc (by simp) _).alloc (by simp; omega) _
  have h0 := B1.cell 0
  have h1 := B1.cell 1
  have h2 := B1.cell 2
  have h3 := B1.cell 3
  have h4 := B1.cell 4
  have h5 := B1.cell 5
  simp at h0 h1 h2 h3 h4 h5
  refine bodyPost_ret (v := .agg #[.int .i64 1, .int .i64 2, .int .i64 2, .int .i64 1, .int .i64 1, .slice (some ⟨w.heap.size + 1 + 1, 0, none⟩) 1 1]) (by simp [results, Tryz.results9, go_sem]) rfl ⟨_, _, rfl, ⟨_, _, rfl, .inr ⟨w.heap.size + 1 + 1, 0, rfl, B3.lt, fun i t hi => ?_⟩⟩, hb⟩
  match i, hi with
  | 0, hi =>
    simp [exCfg] at hi
    subst hi
    refine ⟨B3.cell 0, B3.cell 1, _, B3.cell 2, _, _, rfl, .inr ⟨w.heap.size + 1, 0, rfl, B2.lt, fun j l hj => ?_⟩⟩
    match j, hj with
    | 0, hj =>
      simp at hj
      subst hj
      exact ⟨B2.cell 0, B2.cell 1⟩
    | j + 1, hj => simp at hj
  | i + 1, hi => simp [exCfg] at hi

/-- A step of a script, in memory. -/
def OpAt (w : World) (B b o : Nat) (s : Stp) : Prop :=
  w.cell? ⟨b, o, none⟩ = some (.int .i64 s.kind) ∧ w.cell? ⟨b, o + 1, none⟩ = some (.int .i64 s.a) ∧ w.cell? ⟨b, o + 2, none⟩ = some (.int .i64 s.b) ∧ w.cell? ⟨b, o + 3, none⟩ = some (.int .i64 s.c) ∧ w.cell? ⟨b, o + 4, none⟩ = some (.string s.s) ∧ w.cell? ⟨b, o + 5, none⟩ = some (.int .i64 s.cfg.lines) ∧ w.cell? ⟨b, o + 6, none⟩ = some (.int .i64 s.cfg.room) ∧ w.cell? ⟨b, o + 7, none⟩ = some (.int .i64 s.cfg.poll) ∧ w.cell? ⟨b, o + 8, none⟩ = some (.int .i64 s.cfg.idle) ∧ w.cell? ⟨b, o + 9, none⟩ = some (.int .i64 s.cfg.sw) ∧ ∃ t, w.cell? ⟨b, o + 10, none⟩ = some t ∧ Tasks w B t s.cfg.tasks

theorem OpAt.later {w w' : World} {B B' b o : Nat} {s : Stp} (h : OpAt w B b o s) (hb : Below B' w w') (hle : B ≤ B') (hlt : b < B') : OpAt w' B b o s := by
  obtain ⟨h0, h1, h2, h3, h4, h5, h6, h7, h8, h9, t, h10, ht⟩ := h
  have k : ∀ q, w'.cell? ⟨b, q, none⟩ = w.cell? ⟨b, q, none⟩ := fun q => hb.cell (p := ⟨b, q, none⟩) hlt
  exact ⟨(k _).trans h0, (k _).trans h1, (k _).trans h2, (k _).trans h3, (k _).trans h4, (k _).trans h5, (k _).trans h6, (k _).trans h7, (k _).trans h8, (k _).trans h9, t, (k _).trans h10, ht.later hb hle⟩

def Script (w : World) (B : Nat) (v : Value) (os : List Stp) : Prop :=
  ∃ a cap, v = .slice a os.length cap ∧ (os = [] ∨ ∃ b o, a = some ⟨b, o, none⟩ ∧ b < B ∧ ∀ i s, os[i]? = some s → OpAt w B b (o + i * 11) s)

def Kinds (w : World) (B : Nat) (v : Value) (ks : List Int) : Prop :=
  ∃ b cap, v = .slice (some ⟨b, 0, none⟩) ks.length cap ∧ b < B ∧ ∀ i x, ks[i]? = some x → w.cell? ⟨b, i, none⟩ = some (.int .i64 x)

/-- What a step's contract says: St B w n: behind n steps; the world of the script lies in block B. -/
structure Plan (St : Nat → World → Nat → Prop) (ks : List Int) : Prop where
  init : ∀ w : World, St w.heap.size (w.alloc (.cells #[.slice none 0 0, .slice none 0 0, .slice none 0 0, .slice none 0 0, .slice none 0 0, .slice none 0 0] 36)) 0
  later : ∀ (B : Nat) (w w' : World) (n : Nat), St B w n → Below w.heap.size w w' → St B w' n
  step : ∀ (B : Nat) (w : World) (n : Nat) (v : Value) (o : Stp) (B0 : Nat), St B w n → n ≤ 2000000 → B ≤ w.heap.size → Op1 w B0 v o → B0 ≤ w.heap.size → StpOk o → o.kind ∈ ks → Calls Tryz.prog 8 #[.pointer (some ⟨B, 0, none⟩), v] w fun e w' => e = .returned (.bool true) ∧ St B w' (n + 1) ∧ Below B w w'
  looks : ∀ (B : Nat) (w : World) (n : Nat), St B w n → n ≤ 2000001 → Calls Tryz.prog 10 #[.pointer (some ⟨B, 1, none⟩)] w fun e w' => e = .returned (.bool true) ∧ Below w.heap.size w w'

theorem ex_ok (k : Int) : StpOk ⟨k, 0, 0, 0, ⟨#[]⟩, exCfg⟩ := ⟨show (ByteArray.mk #[]).size ≤ 10000000 by decide, show exCfg.tasks.length ≤ 10000000 by decide, fun t ht => by
  have ht : t ∈ exCfg.tasks := ht
  simp [exCfg] at ht
  subst ht
  decide⟩
theorem undrew {w w' : World} (h : Below w.drew.heap.size w.drew w') : Below w.heap.size w w' := ⟨h.os, h.tape, h.output, h.size, h.block⟩
set_option maxRecDepth 100000 in
set_option maxHeartbeats 3200000 in
theorem plays_true {St : Nat → World → Nat → Prop} {ks : List Int} (P : Plan St ks) (B0 : Nat) (sv kv : Value) (os : List Stp) (w : World) (hs : Script w B0 sv os) (hk : Kinds w w.heap.size kv ks) (hks : ks ≠ []) (hkl : ks.length ≤ 100) (hB : B0 ≤ w.heap.size) (hn : os.length ≤ 1999999) (hok : ∀ o ∈ os, StpOk o) :
    Calls Tryz.prog 7 #[sv, kv] w fun e w' => e = .returned (.bool true) ∧ Below w.heap.size w w' := by
  obtain ⟨sa, sc, rfl, hs⟩ := hs
  obtain ⟨kb, kc, rfl, hkb, hkc⟩ := hk
  have HSC := hide hs
  have HKC := hide hkc
  have HOK := hide hok
  have HP := hide P
  generalize hN : os.length = n at *
  have HN := hide hN
  generalize hM : ks.length = m at *
  have HM := hide hM
  have hm0 : 0 < m := by
    have : ks.length ≠ 0 := by simpa using hks
    omega
  obtain ⟨k0, hk0⟩ := get_of_lt (l := ks) (k := 0) (by omega)
  have HK0 := hide hk0
  have kc0 : w.cell? ⟨kb, 0, none⟩ = some (.int .i64 k0) := hkc 0 k0 hk0
  clear hN hM hs hkc hok hks hk0 P
  have HB1 : Hid (Below w.heap.size w (w.alloc (.cells #[.slice none 0 0, .slice none 0 0, .slice none 0 0, .slice none 0 0, .slice none 0 0, .slice none 0 0] 36))) := (Below.refl _ _).alloc (Nat.le_refl _) _
  go_enter Tryz.func7, Tryz.ntmps7
  go_wp2_with fail
  have HEX := hide (example_any (w.alloc (.cells #[.slice none 0 0, .slice none 0 0, .slice none 0 0, .slice none 0 0, .slice none 0 0, .slice none 0 0] 36)).drew)
  have HST0 := hide (HP.out.init w)
  have hz1 : (w.alloc (.cells #[.slice none 0 0, .slice none 0 0, .slice none 0 0, .slice none 0 0, .slice none 0 0, .slice none 0 0] 36)).heap.size = w.heap.size + 1 := by simp
  have kc1 : (w.alloc (.cells #[.slice none 0 0, .slice none 0 0, .slice none 0 0, .slice none 0 0, .slice none 0 0, .slice none 0 0] 36)).cell? ⟨kb, 0, none⟩ = some (.int .i64 k0) := (HB1.out.cell (p := ⟨kb, 0, none⟩) (by simpa using hkb)).trans kc0
  generalize hW1 : w.alloc (.cells #[.slice none 0 0, .slice none 0 0, .slice none 0 0, .slice none 0 0, .slice none 0 0, .slice none 0 0] 36) = w1 at *
  clear hW1
  have HSTEP : Hid (∀ (w2 : World) (ea : Option Addr) (ec : Nat), Tasks w2 w2.heap.size (.slice ea 1 ec) exCfg.tasks → Below w1.heap.size w1 w2 → Calls Tryz.prog 8 #[.pointer (some ⟨w.heap.size, 0, none⟩), .agg #[.int .i64 k0, .int .i64 0, .int .i64 0, .int .i64 0, .string ⟨#[]⟩, .int .i64 1, .int .i64 2, .int .i64 2, .int .i64 1, .int .i64 1, .slice ea 1 ec]] w2 fun e w' => e = .returned (.bool true) ∧ St w.heap.size w' 1 ∧ Below w.heap.size w2 w') := fun w2 ea ec ht hq =>
    HP.out.step w.heap.size w2 0 _ ⟨k0, 0, 0, 0, ⟨#[]⟩, exCfg⟩ w2.heap.size (HP.out.later _ _ _ _ HST0.out hq) (by omega) (by have := hq.size; omega) ⟨_, rfl, ht⟩ (Nat.le_refl _) (ex_ok k0) (List.mem_of_getElem? HK0.out)
  apply wp_some3 (fun (ea : Option Addr) (ec : Nat) (w3 : World) => St w.heap.size w3 1 ∧ Below w.heap.size w w3)
  case h =>
    go_region_with (first
      | (go_at_call 9; refine HEX.out.mono ?_; rintro e w2 ⟨ea, ec, rfl, ht, q2⟩; have HT2 := hide ht; have HQ2 := hide q2; have kc2 : w2.cell? ⟨kb, 0, none⟩ = some (.int .i64 k0) := (q2.cell (p := ⟨kb, 0, none⟩) (by simp; omega)).trans kc1; have hz2 := q2.size; clear ht q2)
      | (go_at_call 8; refine (HSTEP.out w2 ea ec HT2.out (undrew HQ2.out)).mono ?_; rintro e w3 ⟨rfl, hst, q3⟩; have HST3 := hide hst; have HQ3 := hide q3; clear hst q3))
    all_goals exact ⟨ea, ec, w3, ⟨HST3.out, (HB1.out.trans ((undrew HQ2.out).mono (by omega))).trans HQ3.out⟩, rfl, rfl⟩
  rintro ea ec w3 ⟨st3, q3⟩
  have HST3 := hide st3
  have HQ3 := hide q3
  clear st3 q3 kc0 kc1
  go_wp2_with fail
  go_loopw [7] (fun i wr => ∃ (k cnt : Nat), i = .int .i64 k ∧ k ≤ n ∧ cnt ≤ k + 1 ∧ St w.heap.size wr cnt ∧ Below w.heap.size w wr) (fun i _ => n - (intOf i).toNat)
  case atStart => exact ⟨0, 1, rfl, Nat.zero_le _, Nat.le_refl _, HST3.out, HQ3.out⟩
  case round =>
    obtain ⟨k, cnt, rfl, hk, hcnt, hst, hbe⟩ := hrel
    have HST := hide hst
    have HBE := hide hbe
    have hsz := hbe.size
    clear hst hbe
    by_cases hlt : k < n
    · obtain ⟨o, ho⟩ := get_of_lt (l := os) (k := k) (by rw [HN.out]; exact hlt)
      rcases HSC.out with he | ⟨sb, so, rfl, hsb, hsc⟩
      · rw [he] at ho; simp at ho
      obtain ⟨p0, p1, p2, p3, p4, p5, p6, p7, p8, p9, t, p10, ht⟩ := (hsc k _ ho).later HBE.out hB (by omega)
      have HT := hide ht
      have HOKo := hide (HOK.out o (List.mem_of_getElem? ho))
      obtain ⟨ta, tc, hte⟩ := ht.slice
      subst hte
      clear ht ho hsc
      obtain ⟨W0, hW0⟩ : ∃ W, W = wr := ⟨_, rfl⟩
      subst hW0
      go_wp2_with fail
      go_loopw [8, 9] (fun inn j wr => ∃ q : Nat, inn = .bool ((ks.take q).contains o.kind) ∧ j = .int .i64 q ∧ q ≤ m ∧ Below W0.heap.size W0 wr) (fun _ j _ => m - (intOf j).toNat)
      case atStart => exact ⟨0, by simp, rfl, Nat.zero_le _, Below.refl _ _⟩
      case round =>
        obtain ⟨q, rfl, rfl, hq, hbi⟩ := hrel
        have HQI := hide hbi
        have hszi := hbi.size
        clear hbi
        by_cases hqm : q < m
        · obtain ⟨y, hy⟩ := get_of_lt (l := ks) (k := q) (by rw [HM.out]; exact hqm)
          have kq : wr.cell? ⟨kb, q, none⟩ = some (.int .i64 y) := (HQI.out.cell (p := ⟨kb, q, none⟩) (by simp; omega)).trans ((HBE.out.cell (p := ⟨kb, q, none⟩) (by simpa using hkb)).trans (HKC.out q y hy))
          have o0 : wr.cell? ⟨sb, so + k * 11, none⟩ = some (.int .i64 o.kind) := (HQI.out.cell (p := ⟨sb, so + k * 11, none⟩) (by simp; omega)).trans p0
          have HTK := hide (take_snoc hy)
          have hqi : (q : Int) < (m : Int) := by omega
          clear hy
          cases hc : (ks.take q).contains o.kind with
          | true =>
            have HC := hide hc
            clear hc
            go_wp2_with fail
            go_quiet ((fail))
            go_wp2
            go_roundw
            case rel =>
              refine ⟨q + 1, ?_, by go_num, by omega, ⟨HQI.out.os, HQI.out.tape, HQI.out.output, HQI.out.size, HQI.out.block⟩⟩
              have h1 := HC.out
              rw [HTK.out]
              simp only [List.contains_eq_mem, List.mem_append, decide_eq_true_eq] at h1 ⊢
              simp [h1]
            case measure => simp [intOf]; omega
          | false =>
            have HC := hide hc
            clear hc
            by_cases hxy : o.kind = y
            · have hxe : (o.kind == y) = true := by simp [hxy]
              go_wp2_with fail
              go_quiet ((fail))
              go_wp2
              go_roundw
              case rel =>
                refine ⟨q + 1, ?_, by go_num, by omega, ⟨HQI.out.os, HQI.out.tape, HQI.out.output, HQI.out.size, HQI.out.block⟩⟩
                rw [HTK.out]
                simp [hxy]
              case measure => simp [intOf]; omega
            · have hxe : (o.kind == y) = false := by simp [hxy]
              go_wp2_with fail
              go_quiet ((fail))
              go_wp2
              go_roundw
              case rel =>
                refine ⟨q + 1, ?_, by go_num, by omega, ⟨HQI.out.os, HQI.out.tape, HQI.out.output, HQI.out.size, HQI.out.block⟩⟩
                have h1 := HC.out
                rw [HTK.out]
                simp only [List.contains_eq_mem, decide_eq_false_iff_not] at h1
                simp [h1, hxy]
              case measure => simp [intOf]; omega
        · have hqe : q = m := by omega
          have hqi : ¬ (q : Int) < (m : Int) := by omega
          rw [List.take_of_length_le (by rw [HM.out]; omega)]
          cases hc : ks.contains o.kind with
          | false =>
            clear hc
            have HSTL := hide (HP.out.later _ _ _ _ HST.out HQI.out)
            go_wp2
            go_roundw
            case rel => exact ⟨k + 1, cnt, by go_num, by omega, by omega, HSTL.out, HBE.out.trans (HQI.out.mono hsz)⟩
            case measure => simp [intOf]; omega
          | true =>
            have HMEM : Hid (o.kind ∈ ks) := by simpa [Hid] using hc
            have HSTL := hide (HP.out.later _ _ _ _ HST.out HQI.out)
            clear hc
            have o0 : wr.cell? ⟨sb, so + k * 11, none⟩ = some (.int .i64 o.kind) := (HQI.out.cell (p := ⟨sb, so + k * 11, none⟩) (by simp; omega)).trans p0
            have o1 : wr.cell? ⟨sb, so + k * 11 + 1, none⟩ = some (.int .i64 o.a) := (HQI.out.cell (p := ⟨sb, so + k * 11 + 1, none⟩) (by simp; omega)).trans p1
            have o2 : wr.cell? ⟨sb, so + k * 11 + 2, none⟩ = some (.int .i64 o.b) := (HQI.out.cell (p := ⟨sb, so + k * 11 + 2, none⟩) (by simp; omega)).trans p2
            have o3 : wr.cell? ⟨sb, so + k * 11 + 3, none⟩ = some (.int .i64 o.c) := (HQI.out.cell (p := ⟨sb, so + k * 11 + 3, none⟩) (by simp; omega)).trans p3
            have o4 : wr.cell? ⟨sb, so + k * 11 + 4, none⟩ = some (.string o.s) := (HQI.out.cell (p := ⟨sb, so + k * 11 + 4, none⟩) (by simp; omega)).trans p4
            have o5 : wr.cell? ⟨sb, so + k * 11 + 5, none⟩ = some (.int .i64 o.cfg.lines) := (HQI.out.cell (p := ⟨sb, so + k * 11 + 5, none⟩) (by simp; omega)).trans p5
            have o6 : wr.cell? ⟨sb, so + k * 11 + 6, none⟩ = some (.int .i64 o.cfg.room) := (HQI.out.cell (p := ⟨sb, so + k * 11 + 6, none⟩) (by simp; omega)).trans p6
            have o7 : wr.cell? ⟨sb, so + k * 11 + 7, none⟩ = some (.int .i64 o.cfg.poll) := (HQI.out.cell (p := ⟨sb, so + k * 11 + 7, none⟩) (by simp; omega)).trans p7
            have o8 : wr.cell? ⟨sb, so + k * 11 + 8, none⟩ = some (.int .i64 o.cfg.idle) := (HQI.out.cell (p := ⟨sb, so + k * 11 + 8, none⟩) (by simp; omega)).trans p8
            have o9 : wr.cell? ⟨sb, so + k * 11 + 9, none⟩ = some (.int .i64 o.cfg.sw) := (HQI.out.cell (p := ⟨sb, so + k * 11 + 9, none⟩) (by simp; omega)).trans p9
            have o10 : wr.cell? ⟨sb, so + k * 11 + 10, none⟩ = some (.slice ta o.cfg.tasks.length tc) := (HQI.out.cell (p := ⟨sb, so + k * 11 + 10, none⟩) (by simp; omega)).trans p10
            go_wp2_with fail
            refine (HP.out.step w.heap.size wr cnt _ o B0 HSTL.out (by omega) (by omega) ⟨_, rfl, HT.out.later HQI.out (by omega)⟩ (by omega) HOKo.out HMEM.out).mono ?_
            rintro e w5 ⟨rfl, st5, q5⟩
            have HST5 := hide st5
            have HB5 : Hid (Below w.heap.size w w5) := (HBE.out.trans (HQI.out.mono hsz)).trans q5
            have hz5 := q5.size
            clear st5 q5 o0 o1 o2 o3 o4 o5 o6 o7 o8 o9 o10
            go_wp2_with fail
            refine (HP.out.looks w.heap.size w5 (cnt + 1) HST5.out (by omega)).mono ?_
            rintro e w6 ⟨rfl, q6⟩
            have HST6 := hide (HP.out.later _ _ _ _ HST5.out q6)
            have HB6 : Hid (Below w.heap.size w w6) := HB5.out.trans (q6.mono (by omega))
            clear q6
            go_wp2
            go_roundw
            case rel => exact ⟨k + 1, cnt + 1, by go_num, by omega, by omega, HST6.out, HB6.out⟩
            case measure => simp [intOf]; omega
    · go_wp2
      go_ret
      exact ⟨rfl, HBE.out⟩

end Go.Proofs.YthloffgebebijaaGreat
