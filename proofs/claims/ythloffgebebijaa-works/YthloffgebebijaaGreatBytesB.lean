/- BytesB: the walks of package config's sum, Bytes, and of Encode. -/
import Derived.Test.YthloffgebebijaaGreatBytesA
import Derived.Test.YthloffgebebijaaGreatValidK
namespace Go.Proofs.YthloffgebebijaaGreat
open Go.RowKit

/-- The value v reads as the bytes bs, in w, below block B. -/
def Rd8 (w : World) (B : Nat) (v : Value) (bs : List Int) : Prop :=
  ∃ a cap, v = .slice a bs.length cap ∧ bs.length ≤ cap ∧ (bs = [] ∨ ∃ b o, a = some ⟨b, o, none⟩ ∧ b < B ∧ ∀ i x, bs[i]? = some x → w.cell? ⟨b, o + i, none⟩ = some (.int .u8 x))

theorem Rd8.later {w w' : World} {B B' : Nat} {v : Value} {bs : List Int} (h : Rd8 w B v bs) (hb : Below B' w w') (hle : B ≤ B') : Rd8 w' B v bs := by
  obtain ⟨a, cap, hv, hle', h⟩ := h
  refine ⟨a, cap, hv, hle', h.imp id ?_⟩
  rintro ⟨b, o, ha, hlt, hc⟩
  exact ⟨b, o, ha, hlt, fun i x hi => (hb.cell (p := ⟨b, o + i, none⟩) (by simp; omega)).trans (hc i x hi)⟩
theorem Rd8.up {w : World} {B B' : Nat} {v : Value} {bs : List Int} (h : Rd8 w B v bs) (hle : B ≤ B') : Rd8 w B' v bs := by
  obtain ⟨a, cap, hv, hle', h⟩ := h
  refine ⟨a, cap, hv, hle', h.imp id ?_⟩
  rintro ⟨b, o, ha, hlt, hc⟩
  exact ⟨b, o, ha, by omega, hc⟩

theorem Own8.rd {w : World} {base : Nat} {e : TypeId} {v : Value} {bs : List Int} (h : Own8 w base e v bs) : Rd8 w w.heap.size v bs := by
  unfold Own8 at h
  have h' := h
  obtain ⟨_, ho⟩ := h'
  rcases ho with ⟨rfl, hn⟩ | ⟨g, cap, cur, rfl, hg, hh, hcap, _⟩
  · have : bs = [] := List.eq_nil_of_length_eq_zero hn
    subst this
    exact ⟨none, 0, rfl, Nat.le_refl _, .inl rfl⟩
  · refine ⟨_, cap, rfl, hcap, .inr ⟨g, 0, rfl, lt_of_block hh, fun i x hi => ?_⟩⟩
    have := h.cellAt i (by have := lt_of_get hi; omega)
    rw [Nat.zero_add, this]
    simp [hi]

/-- The sum of bytes, as a byte. -/
def bsum (l : List Int) : Int := l.sum % 256
theorem bsum_snoc (l : List Int) (x : Int) : bsum (l ++ [x]) = (bsum l + x) % 256 := by simp [bsum]

set_option maxRecDepth 100000 in
set_option maxHeartbeats 400000 in
theorem sum_any (B : Nat) (v : Value) (bs : List Int) (w : World) (h : Rd8 w B v bs) (hb : ∀ x ∈ bs, 0 ≤ x ∧ x < 256) (hlen : bs.length ≤ 140737488355328) :
    Calls Tryz.prog 79 #[v] w fun e w' => e = .returned (.int .u8 (bsum bs)) ∧ w = w' := by
  obtain ⟨a, cap, rfl, hcap, hv⟩ := h
  generalize hn : bs.length = n at *
  have H := hide hn
  have HB := hide hb
  have HV := hide hv
  clear hn hb hv
  go_enter Tryz.func79, Tryz.ntmps79
  go_wp2
  go_loop [3, 8] (fun s i => ∃ k : Nat, i = .int .i64 k ∧ k ≤ n ∧ s = .int .u8 (bsum (bs.take k))) (fun _ i => n - (intOf i).toNat)
  case atStart => exact ⟨0, rfl, Nat.zero_le _, rfl⟩
  case round =>
    obtain ⟨k, rfl, hk, rfl⟩ := hrel
    by_cases hlt : k < n
    · obtain ⟨x, hl⟩ := get_of_lt (l := bs) (k := k) (by rw [H.out]; exact hlt)
      obtain ⟨x0, x1⟩ := HB.out x (List.mem_of_getElem? hl)
      rcases HV.out with hv | ⟨b, o, rfl, hlb, hc⟩
      · rw [hv] at hl; simp at hl
      have d0 := hc k x hl
      have HT := hide (take_snoc hl)
      have s0 : 0 ≤ bsum (bs.take k) := by unfold bsum; omega
      have s1 : bsum (bs.take k) < 256 := by unfold bsum; omega
      clear hc hl
      generalize hS : bsum (bs.take k) = S at *
      have HS := hide hS
      clear hS
      go_wp2
      go_round
      case rel =>
        refine ⟨k + 1, by go_num, by omega, ?_⟩
        rw [HT.out, bsum_snoc, HS.out]
      case measure => simp [intOf]; omega
    · go_wp2
      go_ret
      refine ⟨ret_int ?_, rfl⟩
      rw [List.take_of_length_le (by rw [H.out]; omega)]

def head7 (c : Cfg) : List Int := [84, c.lines, c.room, c.poll, c.idle, c.sw, c.tasks.length]
def cfgBytes0 (c : Cfg) : List Int := head7 c ++ c.tasks.flatMap taskBytes
def cfgBytes (c : Cfg) : List Int := cfgBytes0 c ++ [(-(bsum (cfgBytes0 c))) % 256]

theorem limBytes_byte {ls : List (Int × Int)} (h : limsOk ls = true) : ∀ x ∈ limBytes ls, 0 ≤ x ∧ x < 256 := by
  simp only [limsOk, Bool.and_eq_true, decide_eq_true_eq] at h
  have hb := vl_bounds h.2 (by decide) (by decide)
  intro x hx
  simp only [limBytes, List.mem_flatMap] at hx
  obtain ⟨l, hl, hx⟩ := hx
  have := hb l hl
  simp at hx
  omega
theorem taskBytes_byte {t : Tk} (h : taskOk t = true) : ∀ x ∈ taskBytes t, 0 ≤ x ∧ x < 256 := by
  simp only [taskOk, Bool.and_eq_true, decide_eq_true_eq] at h
  have hb := limBytes_byte h.2.2
  have hl := h.2.2
  simp only [limsOk, Bool.and_eq_true, decide_eq_true_eq] at hl
  intro x hx
  simp only [taskBytes, List.mem_append] at hx
  rcases hx with hx | hx
  · simp at hx; omega
  · exact hb x hx
theorem taskBytes_len {t : Tk} (h : taskOk t = true) : (taskBytes t).length ≤ 13 := by
  simp only [taskOk, limsOk, Bool.and_eq_true, decide_eq_true_eq] at h
  simp [taskBytes, limBytes_length]; omega
theorem flat_len {ts : List Tk} (h : ts.all taskOk = true) : (ts.flatMap taskBytes).length ≤ 13 * ts.length := by
  induction ts with
  | nil => simp
  | cons t r ih =>
    simp only [List.all_cons, Bool.and_eq_true] at h
    have := ih h.2
    have := taskBytes_len h.1
    rw [List.flatMap_cons, List.length_append, List.length_cons]; omega
theorem all_take {α : Type} {p : α → Bool} {l : List α} (h : l.all p = true) (k : Nat) : (l.take k).all p = true := by
  rw [List.all_eq_true] at h ⊢
  exact fun x hx => h x (List.mem_of_mem_take hx)
theorem cfgOk_parts {c : Cfg} (h : cfgOk c = true) : (1 ≤ c.lines ∧ c.lines ≤ 4) ∧ (1 ≤ c.room ∧ c.room ≤ 40) ∧ (1 ≤ c.poll ∧ c.poll ≤ 20) ∧ (0 ≤ c.idle ∧ c.idle ≤ 20) ∧ (0 ≤ c.sw ∧ c.sw ≤ 20) ∧ (1 ≤ c.tasks.length ∧ c.tasks.length ≤ 6) ∧ c.tasks.all taskOk = true := by
  simpa only [cfgOk, tasksOk, Bool.and_eq_true, decide_eq_true_eq] using h
theorem cfgBytes0_byte {c : Cfg} (h : cfgOk c = true) : ∀ x ∈ cfgBytes0 c, 0 ≤ x ∧ x < 256 := by
  obtain ⟨h1, h2, h3, h4, h5, h6, h7⟩ := cfgOk_parts h
  intro x hx
  simp only [cfgBytes0, List.mem_append, List.mem_flatMap] at hx
  rcases hx with hx | ⟨t, ht, hx⟩
  · simp [head7] at hx; omega
  · exact taskBytes_byte (List.all_eq_true.1 h7 t ht) x hx

set_option maxRecDepth 100000 in
set_option maxHeartbeats 800000 in
theorem bytes_any (B : Nat) (v : Value) (c : Cfg) (w : World) (hv : Cf w B v c) (hB : B ≤ w.heap.size) (hok : cfgOk c = true) :
    Calls Tryz.prog 53 #[v] w fun e w' => ∃ v', e = .returned v' ∧ Own8 w' w.heap.size 5 v' (cfgBytes c) ∧ Below w.heap.size w w' := by
  obtain ⟨s, rfl, hs⟩ := hv
  have HBY := hide (cfgBytes0_byte hok)
  obtain ⟨h1, h2, h3, h4, h5, h6, h7⟩ := cfgOk_parts hok
  obtain ⟨lines, room, poll, idle, sw, ts⟩ := c
  simp only at h1 h2 h3 h4 h5 h6 h7 hs
  obtain ⟨h1, h1'⟩ := h1; obtain ⟨h2, h2'⟩ := h2; obtain ⟨h3, h3'⟩ := h3; obtain ⟨h4, h4'⟩ := h4; obtain ⟨h5, h5'⟩ := h5; obtain ⟨h6, h6'⟩ := h6
  obtain ⟨sa, scap, rfl, hs⟩ := hs
  rcases hs with rfl | ⟨sb, so, rfl, hsb, hc⟩
  · simp at h6
  have HC := hide hc
  have HA := hide h7
  clear hc hok h7
  generalize hn : ts.length = n at *
  have HN := hide hn
  clear hn
  go_enter Tryz.func53, Tryz.ntmps53
  go_wp2_with fail
  go_loopw [3, 29] (fun b i wr => ∃ k : Nat, i = .int .i64 k ∧ k ≤ n ∧ Own8 wr w.heap.size 5 b ([84, lines, room, poll, idle, sw, (n : Int)] ++ (ts.take k).flatMap taskBytes) ∧ Below w.heap.size w wr) (fun _ i _ => n - (intOf i).toNat)
  case atStart =>
    refine ⟨0, rfl, Nat.zero_le _, ?_, ((Below.refl _ _).alloc (Nat.le_refl _) _).alloc (by simp) _⟩
    have := World.ownsRow_lit (base := w.heap.size) (e := 5) (size := 1) (w.alloc (.cells #[.int .i64 lines, .int .i64 room, .int .i64 poll, .int .i64 idle, .int .i64 sw, .slice (some ⟨sb, so, none⟩) n scap] 40)) #[.int .u8 84, .int .u8 lines, .int .u8 room, .int .u8 poll, .int .u8 idle, .int .u8 sw, .int .u8 n] 7 (by simp) (by unfold maxLen; omega) (by simp)
    simpa [Own8] using this
  case round =>
    obtain ⟨k, rfl, hk, ho, hq⟩ := hrel
    have hz := hq.size
    by_cases hlt : k < n
    · obtain ⟨t, hl⟩ := get_of_lt (l := ts) (k := k) (by rw [HN.out]; exact hlt)
      obtain ⟨d0, d1, s, d2, hs⟩ := (HC.out k _ hl).later hq hB (by omega)
      obtain ⟨ta, tcap, rfl⟩ := hs.slice
      have HTO := hide (List.all_eq_true.1 HA.out t (List.mem_of_getElem? hl))
      have HT := hide (take_snoc hl)
      have HO := hide ho
      have HQ := hide hq
      have HS := hide hs
      have HLN := hide (flat_len (all_take HA.out k))
      clear hl ho hq hs
      go_wp2_with fail
      refine (appendTask_any w.heap.size B _ _ _ t _ (HO.out.alloc _) (by simp; omega) hB ⟨_, rfl, HS.out.later ((Below.refl _ _).alloc (Nat.le_refl _) _) (by omega)⟩ HTO.out ?_).mono ?_
      · have := HLN.out; rw [List.length_take] at this; simp at this ⊢; omega
      rintro e w4 ⟨v4, rfl, o4, q4⟩
      have HQ4 := hide ((HQ.out.alloc hz _).trans (q4.below (by simp; omega)))
      have HO4 := hide o4
      clear q4 o4 HO HQ d0 d1 d2 HS
      go_wp2
      go_roundw
      case rel =>
        refine ⟨k + 1, by go_num, by omega, ?_, HQ4.out⟩
        have := HO4.out
        rw [HT.out, List.flatMap_append]
        simpa [List.append_assoc] using this
      case measure => simp [intOf]; omega
    · have e1 : ts.take k = ts := List.take_of_length_le (by rw [HN.out]; omega)
      rw [e1] at ho
      have HO := hide ho
      have HQ := hide hq
      have HE : Hid (cfgBytes0 ⟨lines, room, poll, idle, sw, ts⟩ = [84, lines, room, poll, idle, sw, (n : Int)] ++ ts.flatMap taskBytes) := by simp only [Hid, cfgBytes0, head7, HN.out]
      rw [← HE.out] at ho
      have HO := hide ho
      have HLN := hide (flat_len HA.out)
      have hl0 : (cfgBytes0 ⟨lines, room, poll, idle, sw, ts⟩).length ≤ 100 := by have := HLN.out; rw [HN.out] at this; rw [HE.out]; simp only [List.length_append, List.length_cons, List.length_nil]; omega
      have HCB : Hid (cfgBytes ⟨lines, room, poll, idle, sw, ts⟩ = cfgBytes0 ⟨lines, room, poll, idle, sw, ts⟩ ++ [(-(bsum (cfgBytes0 ⟨lines, room, poll, idle, sw, ts⟩))) % 256]) := rfl
      clear ho hq HE
      generalize hbs : cfgBytes0 ⟨lines, room, poll, idle, sw, ts⟩ = bs at *
      clear hbs
      go_wp2_with fail
      refine (sum_any _ _ bs _ HO.out.rd HBY.out (by omega)).mono ?_
      rintro e w4 ⟨rfl, rfl⟩
      have hs0 : 0 ≤ bsum bs := by unfold bsum; omega
      have hs1 : bsum bs < 256 := by unfold bsum; omega
      generalize hS : bsum bs = S at *
      clear hS
      go_wp2_with (at_builtin; go_must (refine wpList_app8 rfl _ _ rfl w.heap.size _ bs [(-S) % 256] rfl (HO.out.alloc _) _ _ _ rfl rfl (new_cells _ _ _ _ (by simp)) ?_ ?_ ?_))
      · simp; omega
      · simp; omega
      intro v5 w5 o5 q5
      have HO5 := hide o5
      have HQ5 := hide ((HQ.out.alloc hz _).trans (q5.below (by simp; omega)))
      clear o5 q5
      go_wp2
      go_ret
      exact ⟨_, rfl, by rw [HCB.out]; exact HO5.out, HQ5.out⟩

set_option maxHeartbeats 400000 in
theorem encode_yes (B : Nat) (v : Value) (c : Cfg) (w : World) (hv : Cf w B v c) (hB : B ≤ w.heap.size) (hok : cfgOk c = true) :
    Calls Tryz.prog 23 #[v] w fun e w' => ∃ v', e = .returned (.tuple #[v', .int .i64 0]) ∧ Own8 w' w.heap.size 5 v' (cfgBytes c) ∧ Below w.heap.size w w' := by
  have HV := hide hv
  obtain ⟨s, rfl, hs⟩ := hv
  obtain ⟨sa, scap, rfl⟩ := hs.slice
  clear hs
  have hb0 : ∀ o, Below w.heap.size w (w.alloc o) := fun o => (Below.refl _ _).alloc (Nat.le_refl _) _
  go_enter Tryz.func23, Tryz.ntmps23
  go_wp2_with fail
  refine (valid_any _ B c _ (HV.out.later (hb0 _) hB) (by simp; omega)).mono ?_
  rintro e w1 ⟨rfl, q1⟩
  have hz := q1.size
  simp at hz
  have HQ := hide ((hb0 _).trans (q1.mono (by simp)))
  have HV1 := hide (HV.out.later HQ.out hB)
  obtain ⟨hc, hf⟩ : (∀ o, w1.cell? ⟨w.heap.size, o, none⟩ = (w.alloc _).cell? ⟨w.heap.size, o, none⟩) ∧ True := ⟨fun o => q1.cell (p := ⟨w.heap.size, o, none⟩) (by simp), trivial⟩
  clear q1 HV
  rw [hok]
  go_wp2_with fail
  refine (bytes_any B _ c _ HV1.out (by omega) hok).mono ?_
  rintro e w2 ⟨v2, rfl, o2, q2⟩
  have HO := hide (o2.lower (base' := w.heap.size) (by omega))
  have HQ2 := hide (HQ.out.trans (q2.mono (by omega)))
  clear o2 q2 hc HV1
  go_wp2
  go_ret2
  exact ⟨_, rfl, HO.out, HQ2.out⟩

set_option maxHeartbeats 400000 in
theorem encode_no (B : Nat) (v : Value) (c : Cfg) (w : World) (hv : Cf w B v c) (hB : B ≤ w.heap.size) (hok : cfgOk c = false) :
    Calls Tryz.prog 23 #[v] w fun e w' => e = .returned (.tuple #[.slice none 0 0, .int .i64 1]) ∧ Below w.heap.size w w' := by
  have HV := hide hv
  obtain ⟨s, rfl, hs⟩ := hv
  obtain ⟨sa, scap, rfl⟩ := hs.slice
  clear hs
  have hb0 : ∀ o, Below w.heap.size w (w.alloc o) := fun o => (Below.refl _ _).alloc (Nat.le_refl _) _
  go_enter Tryz.func23, Tryz.ntmps23
  go_wp2_with fail
  refine (valid_any _ B c _ (HV.out.later (hb0 _) hB) (by simp; omega)).mono ?_
  rintro e w1 ⟨rfl, q1⟩
  have HQ := hide ((hb0 _).trans (q1.mono (by simp)))
  clear q1 HV
  rw [hok]
  go_wp2
  go_ret2
  exact ⟨rfl, HQ.out⟩

end Go.Proofs.YthloffgebebijaaGreat
