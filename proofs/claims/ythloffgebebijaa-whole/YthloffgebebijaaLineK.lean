/- LineB: a line's bytes as a row of the executive's own; the walks of package line's unfinished, isMessage, message, Held, fedBy. -/
import Derived.Test.YthloffgebebijaaPlainA
import Derived.Test.YthloffgebebijaaJobsK
import Derived.Deep.RegionWith
import Derived.Deep.RegionLaw
import Derived.Lib.SliceRun
import Derived.Maps.AppendAt
import Derived.Deep.DeepMust
namespace Go.Proofs.Ythloffgebebijaa
open Go.RowKit

def fedCells (f : Fd) : List Value := [.int .u8 f.b, .int .i64 f.tick]
def frow (l : List Fd) : List Value := (l.map fedCells).flatten
theorem frow_two (l : List Fd) : ∀ c ∈ l.map fedCells, c.length = 2 := by
  intro c hc
  obtain ⟨j, _, rfl⟩ := List.mem_map.1 hc
  rfl
theorem frow_length (l : List Fd) : (frow l).length = l.length * 2 := by rw [frow, flatten_len (frow_two l), List.length_map]
theorem frow_get {l : List Fd} {i : Nat} {f : Fd} (h : l[i]? = some f) (k : Nat) (hk : k < 2) : (frow l)[i * 2 + k]? = (fedCells f)[k]? := by
  rw [frow, flatten_get (frow_two l) i k hk, List.getElem?_map, h]
  rfl
theorem frow_append (a b : List Fd) : frow (a ++ b) = frow a ++ frow b := by simp [frow]
theorem frow_drop (l : List Fd) (m : Nat) : (frow l).drop (m * 2) = frow (l.drop m) := by
  induction l generalizing m with
  | nil => simp [frow]
  | cons j l ih =>
    cases m with
    | zero => simp [frow]
    | succ m =>
      have e : frow (j :: l) = fedCells j ++ frow l := rfl
      rw [List.drop_succ_cons, e, List.drop_append, List.drop_eq_nil_of_le (by simp [fedCells]; omega), List.nil_append]
      rw [show (m + 1) * 2 - (fedCells j).length = m * 2 from by simp [fedCells]; omega, ih]

/-- The bytes of a line, in a row of the executive's own. -/
def FedP (w : World) (base : Nat) (v : Value) (l : List Fd) : Prop := w.ownsRow base 132 2 v l.length (frow l)
theorem FedP.same {w w' : World} {base : Nat} {v : Value} {l : List Fd} (h : FedP w base v l) (hs' : ∀ k, v.ownBlock = some k → w'.heap[k]? = w.heap[k]?) : FedP w' base v l := ownsRow_same h hs'
theorem FedP.later {w w' : World} {base : Nat} {v : Value} {l : List Fd} (h : FedP w base v l) (hb : Below w.heap.size w w') : FedP w' base v l := ownsRow_same h fun k hk => hb.block k (ownsRow_lt h hk).2
theorem FedP.fd {w : World} {base g cap n : Nat} {l : List Fd} (h : FedP w base (.slice (some ⟨g, 0, none⟩) n cap) l) {i : Nat} {f : Fd} (hi : l[i]? = some f) : FdAt w g (i * 2) f := by
  have hc : ∀ k u, (frow l)[k]? = some u → w.cell? ⟨g, k, none⟩ = some u := fun k u hu => by
    have := World.ownsRow.cells (g := g) h (by rfl) k u hu
    rw [Addr.add] at this
    split at this
    · rename_i h0; subst h0; exact this
    · simpa using this
  exact ⟨hc _ _ ((frow_get hi 0 (by omega)).trans rfl), hc _ _ ((frow_get hi 1 (by omega)).trans rfl)⟩
/-- The same bytes, read through a slice from a place on. -/
theorem FedP.view {w : World} {base g cap n : Nat} {l : List Fd} (h : FedP w base (.slice (some ⟨g, 0, none⟩) n cap) l) (q m c : Nat) : FedsR w w.heap.size (.slice (some ⟨g, q * 2, none⟩) ((l.take m).drop q).length c) ((l.take m).drop q) := by
  refine ⟨_, _, rfl, .inr ⟨g, q * 2, rfl, (ownsRow_lt h (k := g) rfl).2, fun i f hi => ?_⟩⟩
  have hi2 : l[q + i]? = some f := by
    rw [List.getElem?_drop, List.getElem?_take] at hi
    split at hi
    · exact hi
    · cases hi
  have := h.fd hi2
  rw [show (q + i) * 2 = q * 2 + i * 2 from by omega] at this
  exact this

theorem unfin_any (B : Nat) (lv : Value) (fs : List Fd) (w : World) (hl : FedsR w B lv fs) (hne : fs ≠ []) :
    Calls Try.prog 81 #[lv] w fun e w' => e = .returned (.bool (unfin fs)) ∧ w' = w := by
  obtain ⟨a, c, rfl, hf⟩ := hl
  rcases hf with h0 | ⟨b, o, rfl, hb, hc⟩
  · exact absurd h0 hne
  cases fs with
  | nil => exact absurd rfl hne
  | cons f r =>
    obtain ⟨c0, _⟩ := hc 0 f rfl
    simp only [Nat.zero_mul, Nat.add_zero] at c0
    have hn : (f :: r).length = r.length + 1 := rfl
    have HN : Hid (r.length + 1 = (f :: r).length) := rfl
    have HU : Hid (unfin (f :: r) = (decide (f.b = 126) && decide (r.length < 3))) := rfl
    rw [hn]
    generalize r.length = n at *
    have hpos : (0 : Int) < ((n + 1 : Nat) : Int) := by omega
    clear hc
    by_cases h1 : f.b = 126
    · have he : (f.b == 126) = true := by simp [h1]
      go_enter Try.func81, Try.ntmps81
      go_wp2
      go_ret
      refine ⟨?_, rfl⟩
      rw [HU.out]
      simp [h1]
      try omega
    · have he : (f.b == 126) = false := by simp [h1]
      go_enter Try.func81, Try.ntmps81
      go_wp2
      go_ret
      refine ⟨?_, rfl⟩
      rw [HU.out]
      simp [h1]

theorem held_any (X o : Nat) (a : Option Addr) (n c : Nat) (w : World) (hc : w.cell? ⟨X, o, none⟩ = some (.slice a n c)) :
    Calls Try.prog 43 #[.pointer (some ⟨X, o, none⟩)] w fun e w' => e = .returned (.int .i64 n) ∧ w' = w := by
  go_enter Try.func43, Try.ntmps43
  go_wp2
  go_ret
  exact ⟨rfl, rfl⟩

end Go.Proofs.Ythloffgebebijaa

/- LineC: the walks of package line's isMessage, message, fedBy. -/
namespace Go.Proofs.Ythloffgebebijaa
open Go.RowKit

set_option maxRecDepth 100000 in
set_option maxHeartbeats 1600000 in
theorem isMsg_any (B : Nat) (lv : Value) (fs : List Fd) (w : World) (hl : FedsR w B lv fs) (hin : ∀ f ∈ fs, FdIn f) (hlen : fs.length ≤ 1000000) :
    Calls Try.prog 82 #[lv] w fun e w' => e = .returned (.bool (isMg fs)) ∧ Below w.heap.size w w' := by
  obtain ⟨a, c, rfl, hf⟩ := hl
  by_cases h4 : fs.length < 4
  · have HM : Hid (isMg fs = false) := by
      match fs, h4 with
      | [], _ => rfl
      | [_], _ => rfl
      | [_, _], _ => rfl
      | [_, _, _], _ => rfl
      | _ :: _ :: _ :: _ :: _, h4 => simp only [List.length_cons] at h4; omega
    clear hf hin
    generalize fs.length = n at *
    have hi : (n : Int) < 4 := by omega
    go_enter Try.func82, Try.ntmps82
    go_wp2
    go_ret
    exact ⟨ret_bool HM.out.symm, Below.refl _ _⟩
  · rcases hf with h0 | ⟨b, o, rfl, hb, hc⟩
    · rw [h0] at h4; simp at h4
    match fs, h4 with
    | [], h4 => simp at h4
    | [_], h4 => simp at h4
    | [_, _], h4 => simp at h4
    | [_, _, _], h4 => simp at h4
    | f0 :: f1 :: f2 :: f3 :: r, h4 =>
      obtain ⟨c0, _⟩ := hc 0 f0 rfl
      obtain ⟨c1, _⟩ := hc 1 f1 rfl
      obtain ⟨c2, _⟩ := hc 2 f2 rfl
      obtain ⟨c3, _⟩ := hc 3 f3 rfl
      obtain ⟨p0, p1, _, _⟩ := hin f1 (by simp)
      obtain ⟨q0, q1, _, _⟩ := hin f2 (by simp)
      have HX := hide (xor3 (p := f1.b) (q := f2.b) ⟨p0, p1⟩ ⟨q0, q1⟩)
      have HM : Hid (isMg (f0 :: f1 :: f2 :: f3 :: r) = (decide (f0.b = 126) && (decide (f2.b ≠ 0) && decide (f3.b = bits .xor .u8 (bits .xor .u8 f1.b f2.b) 85)))) := by rw [HX.out]; rfl
      have hn : (f0 :: f1 :: f2 :: f3 :: r).length = r.length + 4 := rfl
      rw [hn] at hlen ⊢
      simp only [Nat.zero_mul, Nat.add_zero, Nat.one_mul] at c0 c1 c2 c3
      generalize r.length = n at *
      have hi : ¬ (((n + 4 : Nat) : Int) < 4) := by omega
      have hi1 : (1 : Int) < ((n + 4 : Nat) : Int) := by omega
      have hi2 : (2 : Int) < ((n + 4 : Nat) : Int) := by omega
      have hi3 : (3 : Int) < ((n + 4 : Nat) : Int) := by omega
      clear hc hin h4 hn
      by_cases h1 : f0.b = 126
      · have e1 : (f0.b == 126) = true := by simp [h1]
        by_cases h2 : f2.b = 0
        · have e2 : (f2.b != 0) = false := by simp [h2]
          have HR : Hid (isMg (f0 :: f1 :: f2 :: f3 :: r) = false) := by rw [Hid, HM.out]; simp [h2]
          go_enter Try.func82, Try.ntmps82
          go_wp2_with fail
          go_quiet ((fail))
          go_wp2
          go_ret
          exact ⟨ret_bool HR.out.symm, below_drewN (Below.refl _ _) _⟩
        · have e2 : (f2.b != 0) = true := by simp [h2]
          by_cases h3 : f3.b = bits .xor .u8 (bits .xor .u8 f1.b f2.b) 85
          · have e3 : (f3.b == bits .xor .u8 (bits .xor .u8 f1.b f2.b) 85) = true := by simp [← h3]
            have HR : Hid (isMg (f0 :: f1 :: f2 :: f3 :: r) = true) := by rw [Hid, HM.out, h1, ← h3]; simp [h2]
            clear h3
            go_enter Try.func82, Try.ntmps82
            go_wp2_with fail
            go_quiet ((fail))
            go_wp2
            go_ret
            exact ⟨ret_bool HR.out.symm, below_drewN (Below.refl _ _) _⟩
          · have e3 : (f3.b == bits .xor .u8 (bits .xor .u8 f1.b f2.b) 85) = false := by simp [h3]
            have HR : Hid (isMg (f0 :: f1 :: f2 :: f3 :: r) = false) := by rw [Hid, HM.out]; simp [h3]
            clear h3
            go_enter Try.func82, Try.ntmps82
            go_wp2_with fail
            go_quiet ((fail))
            go_wp2
            go_ret
            exact ⟨ret_bool HR.out.symm, below_drewN (Below.refl _ _) _⟩
      · have e1 : (f0.b == 126) = false := by simp [h1]
        have HR : Hid (isMg (f0 :: f1 :: f2 :: f3 :: r) = false) := by rw [Hid, HM.out]; simp [h1]
        go_enter Try.func82, Try.ntmps82
        go_wp2_with fail
        go_quiet ((fail))
        go_wp2
        go_ret
        exact ⟨ret_bool HR.out.symm, below_drewN (Below.refl _ _) _⟩

set_option maxRecDepth 100000 in
set_option maxHeartbeats 1600000 in
theorem msg_any (B : Nat) (lv : Value) (fs : List Fd) (w : World) (hl : FedsR w B lv fs) (hB : B ≤ w.heap.size) (hin : ∀ f ∈ fs, FdIn f) (hm : isMg fs = true) (hlen : fs.length ≤ 1000000) :
    Calls Try.prog 83 #[lv] w fun e w' => e = .returned (.agg #[.int .i64 (mgOf fs).task, .int .i64 (mgOf fs).cost, .int .i64 (mgOf fs).tick]) ∧ Below w.heap.size w w' := by
  obtain ⟨a, c, rfl, hf⟩ := hl
  match fs, hm with
  | f0 :: f1 :: f2 :: f3 :: r, hm =>
    rcases hf with h0 | ⟨b, o, rfl, hb, hc⟩
    · cases h0
    obtain ⟨c0, d0⟩ := hc 0 f0 rfl
    obtain ⟨c1, d1⟩ := hc 1 f1 rfl
    obtain ⟨c2, d2⟩ := hc 2 f2 rfl
    obtain ⟨c3, d3⟩ := hc 3 f3 rfl
    obtain ⟨p0, p1, _, _⟩ := hin f1 (by simp)
    obtain ⟨q0, q1, _, _⟩ := hin f2 (by simp)
    have hn : (f0 :: f1 :: f2 :: f3 :: r).length = r.length + 4 := rfl
    rw [hn] at hlen ⊢
    simp only [Nat.zero_mul, Nat.add_zero, Nat.one_mul] at c0 c1 c2 c3 d0 d1 d2 d3
    simp only [mgOf]
    generalize r.length = n at *
    have hi1 : (1 : Int) < ((n + 4 : Nat) : Int) := by omega
    have hi2 : (2 : Int) < ((n + 4 : Nat) : Int) := by omega
    have hi3 : (3 : Int) < ((n + 4 : Nat) : Int) := by omega
    have hbl : b < w.heap.size := by omega
    clear hc hin hn hm
    go_enter Try.func83, Try.ntmps83
    go_wp2_with fail
    apply wp_once
    case h =>
      go_region
      all_goals exact ⟨rfl, rfl⟩
    repeat (first | go_values | go_skip | go_guarded | go_step | go_upon)
    have HF := (Blk.new w #[.int .i64 f1.b, .int .i64 f2.b, .int .i64 f3.tick] 148).drew
    have s0 := HF.cell 0
    have s1 := HF.cell 1
    have s2 := HF.cell 2
    simp at s0 s1 s2
    exact bodyPost_ret (v := .agg #[.int .i64 f1.b, .int .i64 f2.b, .int .i64 f3.tick]) (by simp [results, Try.results83, go_sem]) rfl ⟨rfl, ((Below.refl _ _).alloc (Nat.le_refl _) _).drew⟩

theorem fedBy_from (t : Int) (l : List Fd) (k : Nat) (hk : k ≤ fedBy t l) : (k < fedBy t l ↔ ∃ f, l[k]? = some f ∧ f.tick ≤ t) := by
  induction l generalizing k with
  | nil => simp [fedBy]
  | cons a l ih =>
    by_cases ha : a.tick ≤ t
    · rw [fedBy_cons_le ha] at hk ⊢
      cases k with
      | zero => simp [ha]
      | succ k => simpa using ih k (by omega)
    · rw [fedBy_cons_gt ha] at hk ⊢
      obtain rfl : k = 0 := by omega
      simp [ha]

set_option maxRecDepth 100000 in
set_option maxHeartbeats 1600000 in
theorem fedBy_any (base X o : Nat) (v : Value) (l : List Fd) (t : Int) (w : World) (hc : w.cell? ⟨X, o, none⟩ = some v) (h : FedP w base v l) (hlen : l.length ≤ 1000000) :
    Calls Try.prog 80 #[.pointer (some ⟨X, o, none⟩), .int .i64 t] w fun e w' => e = .returned (.int .i64 (fedBy t l)) ∧ w' = w := by
  obtain ⟨a, c, hv⟩ := ownsRow_slice h
  subst hv
  have HJ := hide h
  have hfl := fedBy_le t l
  have HFB := hide (fedBy_from t l)
  clear h
  generalize hN : l.length = n at *
  generalize hF : fedBy t l = fb at *
  have HN := hide hN
  clear hN hF
  go_enter Try.func80, Try.ntmps80
  go_wp2_with fail
  go_loopw [5] (fun nv wr => ∃ k : Nat, nv = .int .i64 k ∧ k ≤ fb ∧ wr = w) (fun nv _ => n - (intOf nv).toNat)
  case atStart => exact ⟨0, rfl, by omega, rfl⟩
  case round =>
    obtain ⟨k, rfl, hk, rfl⟩ := hrel
    by_cases hlt : k < n
    · have hi : (k : Int) < (n : Int) := by omega
      obtain ⟨f, hf⟩ := get_of_lt (l := l) (k := k) (by rw [HN.out]; exact hlt)
      obtain ⟨g, cap, hv, -⟩ := ownsRow_some HJ.out (by rw [HN.out]; omega)
      simp only [Value.slice.injEq] at hv
      obtain ⟨rfl, -, rfl⟩ := hv
      obtain ⟨_, d1⟩ := HJ.out.fd hf
      by_cases ht : f.tick ≤ t
      · have hkk : k < fb := (HFB.out k hk).2 ⟨f, hf, ht⟩
        clear hf
        go_wp2
        go_roundw
        case rel => exact ⟨k + 1, by go_num, by omega, by first | rfl | trivial⟩
        case measure => simp [intOf]; omega
      · have hkk : ¬ k < fb := fun h => by
          obtain ⟨f', hf', ht'⟩ := (HFB.out k hk).1 h
          rw [hf] at hf'; cases hf'; exact ht ht'
        have HKF : Hid ((k : Int) = (fb : Int)) := by rw [Hid]; omega
        clear hf hkk
        go_wp2
        go_ret
        exact ⟨ret_int HKF.out, rfl⟩
    · have hi : ¬ ((k : Int) < (n : Int)) := by omega
      have HKF : Hid ((k : Int) = (fb : Int)) := by rw [Hid]; omega
      go_wp2
      go_ret
      exact ⟨ret_int HKF.out, rfl⟩

end Go.Proofs.Ythloffgebebijaa

/- LineD: the walk of slices.Delete over a line's bytes, from the front. -/
namespace Go.Proofs.Ythloffgebebijaa
open Go.RowKit

/-- A block behind stores into a stretch of it. -/
theorem Blk.setCells {g : Nat} {t : TypeId} : ∀ (vs : List Value) (o : Nat) (w : World) (cur : Array Value), Blk w g cur t → ∃ cur', Blk (w.setCells g o vs) g cur' t ∧ cur'.size = cur.size ∧ ∀ k, k < cur.size → cur'[k]? = if o ≤ k ∧ k < o + vs.length then vs[k - o]? else cur[k]?
  | [], o, w, cur, h => ⟨cur, h, rfl, fun k hk => by rw [if_neg (by simp only [List.length_nil]; omega)]⟩
  | v :: vs, o, w, cur, h => by
    obtain ⟨cur', h1, h2, h3⟩ := Blk.setCells vs (o + 1) (w.setCell ⟨g, o, none⟩ v) _ (h.set o v)
    refine ⟨cur', h1, by rw [h2]; simp, fun k hk => ?_⟩
    rw [h3 k (by simpa using hk)]
    by_cases hko : k = o
    · subst hko
      rw [if_neg (by omega), if_pos (by simp only [List.length_cons]; omega), Nat.sub_self]
      simp [hk]
    · by_cases hin : o + 1 ≤ k ∧ k < o + 1 + vs.length
      · rw [if_pos hin, if_pos (by simp only [List.length_cons]; omega), show k - o = (k - (o + 1)) + 1 from by omega, List.getElem?_cons_succ]
      · rw [if_neg hin, if_neg (by simp only [List.length_cons]; omega), Array.getElem?_setIfInBounds_ne (by omega)]
theorem Fr.setCells {X : Nat → Prop} {g : Nat} (hX : X g) : ∀ (vs : List Value) (o : Nat) {w w' : World}, Fr X w w' → Fr X w (w'.setCells g o vs)
  | [], _, _, _, h => h
  | v :: vs, o, _, w', h => Fr.setCells hX vs (o + 1) (h.trans (Fr.set (X := X) w' g o v hX) fun _ _ x => x)

/-- clear at a slice of elements of any width. -/
theorem run_clear_wide {P : Program} (w : World) (t e ty : TypeId) (z : Value) (ht : P.underlying t = some (.slice e)) (hv : ∀ w, (zeroValue e).run P w = .ok z w) (b o n c : Nat) (hn : 0 < n)
    (h1 : ∀ u ∈ (Builtin.zeroCells z.cells n).toList, u.oneCell' = true)
    (hc : ∀ j, j < (Builtin.zeroCells z.cells n).toList.length → (w.cell? ⟨b, o + j, none⟩).isSome = true) (hf : ∀ j, j < (Builtin.zeroCells z.cells n).toList.length → w.frozen? ⟨b, o + j, none⟩ = false) :
    (Builtin.clear_ #[t] ty #[.slice (some ⟨b, o, none⟩) n c]).run P w = .ok (.tuple #[]) (w.setCells b o (Builtin.zeroCells z.cells n).toList) := by
  have hst := run_storeCells_cells (P := P) b o (Builtin.zeroCells z.cells n).toList 0 w (by simpa using hc) (by simpa using hf) h1
  simp only [Nat.add_zero] at hst
  obtain ⟨m, rfl⟩ : ∃ m, n = m + 1 := ⟨n - 1, by omega⟩
  simp [Builtin.clear_, run_underlying ht, hv, hst]

theorem info_fed : (Try.prog.info? 132).map (fun i => (i.zero, i.size, i.bytes)) = some (some (.agg #[.int .u8 0, .int .i64 0]), 2, 16) := by kernel_rfl
theorem zero_fed (w : World) : (zeroValue 132).run Try.prog w = .ok (.agg #[.int .u8 0, .int .i64 0]) w := by kernel_rfl
theorem zeros_fed (n : Nat) : (Builtin.zeroCells (Value.agg #[.int .u8 0, .int .i64 0]).cells n).toList.length = n * 2 ∧ ∀ u ∈ (Builtin.zeroCells (Value.agg #[.int .u8 0, .int .i64 0]).cells n).toList, u.oneCell' = true := by
  refine ⟨by simp [Builtin.zeroCells, Value.cells], fun u hu => ?_⟩
  simp only [Builtin.zeroCells, Value.cells, Array.toList_map, List.mem_map] at hu
  obtain ⟨i, _, rfl⟩ := hu
  have : i % 2 = 0 ∨ i % 2 = 1 := by omega
  rcases this with h | h <;> simp [h, Value.oneCell']

theorem frow_one (l : List Fd) : ∀ u ∈ frow l, u.oneCell' = true := by
  intro u hu
  simp only [frow, List.mem_flatten, List.mem_map] at hu
  obtain ⟨_, ⟨f, _, rfl⟩, hu⟩ := hu
  simp only [fedCells, List.mem_cons, List.not_mem_nil, or_false] at hu
  rcases hu with rfl | rfl <;> rfl

set_option maxRecDepth 100000 in
set_option maxHeartbeats 1600000 in
theorem delete_any (base : Nat) (v : Value) (l : List Fd) (k : Nat) (w : World) (h : FedP w base v l) (hk : k ≤ l.length) (hlen : l.length ≤ 1000000) :
    Calls Try.prog 84 #[v, .int .i64 0, .int .i64 k] w fun e w' => ∃ v', e = .returned v' ∧ FedP w' base v' (l.drop k) ∧ v'.ownBlock = v.ownBlock ∧ Fr (fun q => v.ownBlock = some q) w w' := by
  by_cases hk0 : k = 0
  · subst hk0
    obtain ⟨a, c, hv⟩ := ownsRow_slice h
    have hlc : l.length ≤ c := by
      rcases h.2 with ⟨h2, h3⟩ | ⟨g', cap', cur, h2, _, _, h3, _⟩
      · omega
      · rw [hv] at h2; simp at h2; omega
    subst hv
    have HJ := hide h
    have h0 : Calls Try.prog 84 #[.slice a l.length c, .int .i64 0, .int .i64 (0 : Nat)] w fun e w' => e = .returned (.slice a l.length c) ∧ w' = w := by
      clear h HJ
      generalize l.length = n at *
      go_enter Try.func84, Try.ntmps84
      go_wp2
      all_goals (go_ret; exact ⟨rfl, rfl⟩)
    refine h0.mono ?_
    rintro e w' ⟨rfl, rfl⟩
    exact ⟨_, rfl, HJ.out, rfl, Fr.refl _ _⟩
  · obtain ⟨g, cap, hv, hc1, hc2⟩ := ownsRow_some h (by omega)
    subst hv
    obtain ⟨cur, hb, hbase, hcs, hct⟩ : ∃ cur, Blk w g cur 132 ∧ base ≤ g ∧ cur.size = cap * 2 ∧ cur.toList.take (l.length * 2) = frow l := by
      rcases h.2 with ⟨h2, h3⟩ | ⟨g', cap', cur, h2, h4, h5, h3, h6, h7, h8⟩
      · omega
      · simp only [Value.slice.injEq, Option.some.injEq, Addr.mk.injEq, true_and, and_true] at h2
        obtain ⟨rfl, rfl⟩ := h2
        exact ⟨cur, h5, h4, h7, h8⟩
    have HJ := hide h
    have HB := hide hb
    generalize hN : l.length = n at *
    obtain ⟨news, hnews⟩ : ∃ news, news = frow (l.drop k) := ⟨_, rfl⟩
    have hnl : news.length = (n - k) * 2 := by rw [hnews, frow_length, List.length_drop, hN]
    obtain ⟨A, hA, hsrc⟩ : ∃ A : Addr, (if cap = k then some (⟨g, 0, none⟩ : Addr) else some ⟨g, k * 2, none⟩) = some A ∧ Hid (∀ j u, news[j]? = some u → w.drew.cell? (A.add j) = some u) := by
      by_cases hck : cap = k
      · refine ⟨⟨g, 0, none⟩, by simp [hck], fun j u hu => ?_⟩
        have := lt_of_get hu
        omega
      · refine ⟨⟨g, k * 2, none⟩, by simp [hck], fun j u hu => ?_⟩
        rw [hnews, ← frow_drop, List.getElem?_drop] at hu
        have := World.ownsRow.cells (g := g) h (by rfl) _ _ hu
        rw [Addr.add_lit] at this ⊢
        simpa using this
    have s1 : Hid (news.length = (n - k) * 2) := hnl
    have s2 : Hid (∀ u ∈ news, u.oneCell' = true) := by rw [hnews]; exact frow_one _
    have s3 : Hid (∀ j, j < news.length → (w.drew.cell? ⟨g, 0 + 0 * 2 + j, none⟩).isSome = true ∧ w.drew.frozen? ⟨g, 0 + 0 * 2 + j, none⟩ = false) := by
      intro j hj
      refine ⟨?_, hb.free _⟩
      show (w.cell? _).isSome = true
      rw [hb.cell, Array.getElem?_eq_getElem (by omega)]
      rfl
    obtain ⟨W1, hW1⟩ : ∃ W1, W1 = w.drew.setCells g (0 + 0 * 2) news := ⟨_, rfl⟩
    obtain ⟨cur1, b1, z1, g1⟩ := Blk.setCells (g := g) (t := 132) news (0 + 0 * 2) w.drew cur hb
    rw [← hW1] at b1
    have f1 : Fr (fun q => (Value.slice (some ⟨g, 0, none⟩) n cap).ownBlock = some q) w W1 := by rw [hW1]; exact Fr.setCells (X := fun q => (Value.slice (some ⟨g, 0, none⟩) n cap).ownBlock = some q) rfl news _ (Fr.refl _ _).drew
    obtain ⟨zl, zo⟩ := zeros_fed (n - (n - k))
    have hcl : ∀ ty, (Builtin.clear_ #[110] ty #[.slice (some ⟨g, (n - k) * 2, none⟩) (n - (n - k)) (cap - (n - k))]).run Try.prog W1 = .ok (.tuple #[]) (W1.setCells g ((n - k) * 2) (Builtin.zeroCells (Value.agg #[.int .u8 0, .int .i64 0]).cells (n - (n - k))).toList) := fun ty =>
      run_clear_wide W1 _ _ ty _ Try.underlying110 zero_fed g ((n - k) * 2) _ _ (by omega) zo (fun j hj => by rw [b1.cell, Array.getElem?_eq_getElem (by omega)]; rfl) (fun j hj => b1.free _)
    obtain ⟨cur2, b2, z2, g2⟩ := Blk.setCells (g := g) (t := 132) (Builtin.zeroCells (Value.agg #[.int .u8 0, .int .i64 0]).cells (n - (n - k))).toList ((n - k) * 2) W1 cur1 b1
    have f2 : Fr (fun q => (Value.slice (some ⟨g, 0, none⟩) n cap).ownBlock = some q) w (W1.setCells g ((n - k) * 2) (Builtin.zeroCells (Value.agg #[.int .u8 0, .int .i64 0]).cells (n - (n - k))).toList) := Fr.setCells (X := fun q => (Value.slice (some ⟨g, 0, none⟩) n cap).ownBlock = some q) rfl _ _ f1
    have HEND : Hid (FedP (W1.setCells g ((n - k) * 2) (Builtin.zeroCells (Value.agg #[.int .u8 0, .int .i64 0]).cells (n - (n - k))).toList) base (.slice (some ⟨g, 0, none⟩) (n - k) cap) (l.drop k)) := by
      unfold Hid FedP
      rw [List.length_drop, hN]
      refine ⟨by rw [frow_length, List.length_drop, hN], .inr ⟨g, cap, cur2, rfl, hbase, b2, by omega, hc2, by omega, ?_⟩⟩
      apply List.ext_getElem?
      intro j
      rw [List.getElem?_take]
      by_cases hj : j < (n - k) * 2
      · rw [if_pos hj, Array.getElem?_toList, g2 j (by omega), if_neg (by omega), g1 j (by omega), if_pos (by omega), hnews]
        simp
      · rw [if_neg hj, List.getElem?_eq_none (by rw [← hnews]; omega)]
    have HW : Hid (W1 = w.drew.setCells g (0 + 0 * 2) news) := hW1
    have HF2 := hide f2
    obtain ⟨i0, hi0, hz0, hz1, hz2⟩ := info_parts info_fed
    have HI := hide (And.intro hi0 hz1)
    have hkc : k ≤ cap := by omega
    have hki : ¬ ((0 : Int) = (k : Int)) := by omega
    have hkb : ((0 : Int) == (k : Int)) = false := by simp; omega
    have hcn : ¬ (cap = n - k) := by omega
    clear hW1 b1 z1 g1 f1 zl zo b2 z2 g2 f2 hnl hnews hb h hi0 hz0 hz1 hz2 hct hcs hN
    go_enter Try.func84, Try.ntmps84
    go_wp2_with fail
    apply wp_once
    case h =>
      go_region_law (first | (refine step_append_room rfl (.tmp 22) (.tmp 25) 110 rfl 132 i0 2 Try.underlying110 HI.out.1 HI.out.2 g 0 0 cap (by simp [Act.eval, Act.put]) A (n - k) (cap - k) news (by simp [Act.eval, Act.put]) s1.out hsrc.out s2.out (by omega) s3.out ?_; rw [← HW.out]))
      all_goals exact ⟨rfl, rfl⟩
    go_wp2
    go_ret
    exact ⟨_, rfl, HEND.out, rfl, HF2.out⟩

end Go.Proofs.Ythloffgebebijaa

/- LineE: the walk of a line's Feed. -/
namespace Go.Proofs.Ythloffgebebijaa
open Go.RowKit

/-- Bytes that are read, outside the blocks of S. -/
def BytV (w : World) (S : Nat → Prop) (v : Value) (bs : List Int) : Prop :=
  ∃ a cap, v = .slice a bs.length cap ∧ bs.length ≤ cap ∧ (bs = [] ∨ ∃ b o, a = some ⟨b, o, none⟩ ∧ b < w.heap.size ∧ ¬ S b ∧ ∀ i x, bs[i]? = some x → w.cell? ⟨b, o + i, none⟩ = some (.int .u8 x))

theorem wpList_appFed {w : World} {ops : Array Oper} {rest : List Oper} {o : Oper} {a : Act} {Q : Exit → Act → World → Prop} (hgd : o.guard = none) (s x : Operand)
    (ho : o.op = .call { callee := .builtin .append, args := #[s, x], argTypes := #[110, 110] })
    (base : Nat) (v : Value) (l : List Fd) (f : Fd) (hs : a.eval s = v) (hown : FedP w base v l) (ad : Addr) (c : Nat) (hx : a.eval x = .slice (some ad) 1 c) (hnews : ∀ j u, (fedCells f)[j]? = some u → w.cell? (ad.add j) = some u) (hlen : l.length ≤ 1000000) (hbase : base ≤ w.heap.size)
    (h : ∀ v' w', FedP w' base v' (l ++ [f]) → w.grownBy w' v.ownBlock → (v'.ownBlock = v.ownBlock ∨ v'.ownBlock = some w.heap.size) → wpList Try.prog ops Q rest (a.put o.dst v') w') :
    wpList Try.prog ops Q (o :: rest) a w := by
  obtain ⟨i0, hi0, hz0, hz1, hz2⟩ := info_parts info_fed
  refine wpList_append_own_at _ hgd s x 110 ho base 132 i0 (.agg #[.int .u8 0, .int .i64 0]) 2 16 Try.underlying110 hi0 hz0 hz1 hz2 rfl (by decide) v l.length (frow l) hs hown ad 1 c (fedCells f) hx rfl hnews ?_ (by unfold maxLen; omega) (by omega) hbase ?_
  · intro u hu
    simp only [fedCells, List.mem_cons, List.not_mem_nil, or_false] at hu
    rcases hu with rfl | rfl <;> rfl
  · intro v' w' o1 g1 _ l1
    refine h v' w' ?_ g1 l1
    unfold FedP
    rw [frow_append, List.length_append]
    have e : frow [f] = fedCells f := by simp [frow]
    rw [e]
    exact o1

def tag (t : Int) (b : Int) : Fd := ⟨b, t⟩
theorem lineFeed_eq (t : Int) : ∀ (bs : List Int) (l : List Fd) (s : Int), l.length ≤ 32 → bs.foldl (lineAdd t) (l, s) = (l ++ (bs.take (32 - l.length)).map (tag t), s + ((bs.length - (32 - l.length) : Nat) : Int))
  | [], l, s, _ => by simp
  | b :: bs, l, s, h => by
    rw [List.foldl_cons]
    by_cases hl : l.length < 32
    · rw [lineAdd, if_pos hl]
      simp only
      rw [lineFeed_eq t bs (l ++ [(⟨b, t⟩ : Fd)]) s (by simp; omega)]
      simp only [List.length_append, List.length_cons, List.length_nil]
      rw [show 32 - l.length = (32 - (l.length + (0 + 1))) + 1 from by omega, List.take_succ_cons, List.map_cons, List.append_assoc]
      congr 2
      omega
    · rw [lineAdd, if_neg hl]
      simp only
      rw [lineFeed_eq t bs l (s + 1) h, show 32 - l.length = 0 from by omega]
      simp only [List.take_zero, List.map_nil, List.append_nil, List.length_cons, Nat.sub_zero]
      congr 1
      omega

set_option maxRecDepth 100000 in
set_option maxHeartbeats 1600000 in
theorem lFeed_any (S : Nat → Prop) (base X o : Nat) (cs : Array Value) (tt : TypeId) (v : Value) (l : List Fd) (t : Int) (bv : Value) (bs : List Int) (w : World) (hB : Blk w X cs tt) (hcs : cs[o]? = some v) (h : FedP w base v l) (hX : v.ownBlock ≠ some X) (hSX : S X) (hSv : ∀ k, v.ownBlock = some k → S k) (hl : l.length ≤ 32) (hbv : BytV w S bv bs) (hbl : bs.length ≤ 140737488355328) (hbase : base ≤ w.heap.size) :
    Calls Try.prog 41 #[.pointer (some ⟨X, o, none⟩), .int .i64 t, bv] w fun e w' => e = .returned (.int .i64 (lineFeed t l bs).2) ∧ ∃ v', Blk w' X (cs.setIfInBounds o v') tt ∧ FedP w' base v' (lineFeed t l bs).1 ∧ Fr (fun k => k = X ∨ v.ownBlock = some k) w w' ∧ (v'.ownBlock = v.ownBlock ∨ ∃ k, v'.ownBlock = some k ∧ w.heap.size ≤ k) := by
  have HLF : Hid (lineFeed t l bs = (l ++ (bs.take (32 - l.length)).map (tag t), ((bs.length - (32 - l.length) : Nat) : Int))) := by
    have := lineFeed_eq t bs l 0 hl
    rw [Int.zero_add] at this
    exact this
  have ho : o < cs.size := by
    rcases Nat.lt_or_ge o cs.size with h' | h'
    · exact h'
    · rw [Array.getElem?_eq_none h'] at hcs; cases hcs
  obtain ⟨a, c, hve⟩ := ownsRow_slice h
  have hXl := hB.lt
  subst hve
  have c0 : w.cell? ⟨X, o, none⟩ = some (.slice a l.length c) := (hB.cell o).trans hcs
  obtain ⟨ba, bc, rfl, hbc, hbb⟩ := hbv
  have HBB := hide hbb
  have HB := hide hB
  have HJ := hide h
  have HS := hide (And.intro hSX hSv)
  clear hbb hB h hSX hSv
  generalize hN : l.length = n at *
  generalize hM : bs.length = q at *
  have HN := hide hN
  have HM := hide hM
  clear hN hM
  have HSET : Hid (Blk w X (cs.setIfInBounds o (.slice a n c)) tt) := by
    have e : cs.setIfInBounds o (.slice a n c) = cs := by
      apply Array.ext_getElem?
      intro i
      rw [Array.getElem?_setIfInBounds]
      split
      · rename_i hi; subst hi; exact hcs.symm
      · rfl
    rw [Hid, e]; exact HB.out
  have HJ0 : Hid (FedP w base (.slice a n c) (l ++ (bs.take 0).map (tag t))) := by simpa [Hid] using HJ.out
  by_cases hle : q ≤ 32 - n
  · have hle2 : (q : Int) ≤ 32 - (n : Int) := by omega
    have hq32 : q ≤ 32 := by omega
    go_enter Try.func41, Try.ntmps41
    go_wp2_with fail
    go_loopw [23] (fun kv wr => ∃ (k : Nat) (v' : Value), kv = .int .i64 k ∧ k ≤ q ∧ Blk wr X (cs.setIfInBounds o v') tt ∧ FedP wr base v' (l ++ (bs.take k).map (tag t)) ∧ Fr (fun k => k = X ∨ (Value.slice a n c).ownBlock = some k) w wr ∧ (v'.ownBlock = (Value.slice a n c).ownBlock ∨ ∃ k, v'.ownBlock = some k ∧ w.heap.size ≤ k)) (fun kv _ => q - (intOf kv).toNat)
    case atStart => exact ⟨0, .slice a n c, rfl, Nat.zero_le _, HSET.out, HJ0.out, Fr.refl _ _, .inl rfl⟩
    case round =>
      obtain ⟨k, v1, rfl, hk, b1, j1, f1, o1⟩ := hrel
      have hsz := f1.size
      have hx1 := b1.lt
      by_cases hlt : k < q
      · have hi : (k : Int) < ((q : Nat) : Int) := by omega
        obtain ⟨x, hx⟩ := get_of_lt (l := bs) (k := k) (by rw [HM.out]; omega)
        rcases HBB.out with he | ⟨b, bo, hba, hb1, hb2, hb3⟩
        · rw [he] at hx; simp at hx
        subst hba
        have hbX : b ≠ X := fun e => hb2 (e ▸ HS.out.1)
        have hbv : ¬ ((Value.slice a n c).ownBlock = some b) := fun e => hb2 (HS.out.2 b e)
        have cb : wr.cell? ⟨b, bo + k, none⟩ = some (.int .u8 x) := (f1.cell (p := ⟨b, bo + k, none⟩) hb1 (by rintro (e | e); exact hbX e; exact hbv e)).trans (hb3 k x hx)
        have hv1X : ∀ q, v1.ownBlock = some q → q ≠ X := by
          rintro q hq rfl
          rcases o1 with e | ⟨z, e, hz⟩
          · exact hX (e.symm.trans hq)
          · rw [e] at hq; cases hq; omega
        have hl1 : (l ++ (bs.take k).map (tag t)).length = n + k := by rw [List.length_append, List.length_map, List.length_take, HN.out, HM.out]; omega
        have HTK : Hid (l ++ (bs.take (k + 1)).map (tag t) = (l ++ (bs.take k).map (tag t)) ++ [⟨x, t⟩]) := by rw [Hid, take_snoc hx, List.map_append, ← List.append_assoc]; rfl
        generalize l ++ (bs.take k).map (tag t) = L1 at *
        obtain ⟨a1, c1, hv1⟩ := ownsRow_slice j1
        rw [hl1] at hv1
        subst hv1
        have d0 : wr.cell? ⟨X, o, none⟩ = some (.slice a1 (n + k) c1) := (b1.cell o).trans (by simp [ho])
        have d0f := b1.free o
        have HB1 := hide b1
        have HJ1 := hide j1
        have HF1 := hide f1
        have HO1 := hide o1
        have HV1 := hide hv1X
        have HL1 := hide hl1
        clear b1 j1 f1 o1 hb3 hx hv1X hl1
        go_wp2_with (at_builtin; go_must (refine wpList_appFed rfl _ _ rfl base _ L1 ⟨x, t⟩ rfl (HJ1.out.later ((Below.refl _ _).alloc (Nat.le_refl _) _)) ⟨wr.heap.size, 0, none⟩ 1 rfl (fresh_cells wr [.int .u8 x, .int .i64 t] 132 _ rfl) (by rw [HL1.out]; omega) (by simp; omega) ?_))
        intro v2 w4 j4 g4 o4
        have b4 : Blk w4 X (cs.setIfInBounds o (.slice a1 (n + k) c1)) tt := (g4.block X (by simp; omega) (fun e => HV1.out X e.symm rfl)).trans (HB1.out.alloc _)
        have e0 : w4.cell? ⟨X, o, none⟩ = some (.slice a1 (n + k) c1) := (b4.cell o).trans (by simp [ho])
        have e0f := b4.free o
        obtain ⟨a2, c2, hv2⟩ := ownsRow_slice j4
        subst hv2
        have HJ4 := hide j4
        have HG4 := hide g4
        have HO4 := hide o4
        have HB4 := hide b4
        clear j4 g4 o4 b4 d0 d0f
        go_wp2
        go_roundw
        case rel =>
          have hz : (wr.alloc (.cells #[.int .u8 x, .int .i64 t] 132)).heap.size = wr.heap.size + 1 := by simp
          have hnew : (Value.slice a2 (L1 ++ [(⟨x, t⟩ : Fd)]).length c2).ownBlock = (Value.slice a n c).ownBlock ∨ ∃ z, (Value.slice a2 (L1 ++ [(⟨x, t⟩ : Fd)]).length c2).ownBlock = some z ∧ w.heap.size ≤ z := by
            rcases HO4.out with e | e
            · rcases HO1.out with e1 | ⟨z, e1, hz1⟩
              · exact .inl (e.trans e1)
              · exact .inr ⟨z, e.trans e1, hz1⟩
            · exact .inr ⟨_, e, by omega⟩
          have hneX : ∀ z, (Value.slice a2 (L1 ++ [(⟨x, t⟩ : Fd)]).length c2).ownBlock = some z → z ≠ X := by
            rintro z hz1 rfl
            rcases hnew with e | ⟨y, e, hy⟩
            · exact hX (e.symm.trans hz1)
            · rw [e] at hz1; cases hz1; omega
          refine ⟨k + 1, .slice a2 (L1 ++ [(⟨x, t⟩ : Fd)]).length c2, by go_num, by omega, ?_, ?_, ?_, hnew⟩
          · have := HB4.out.set o (.slice a2 (L1 ++ [(⟨x, t⟩ : Fd)]).length c2)
            simpa using this
          · rw [HTK.out]
            exact (HJ4.out.same fun z hz1 => heap_setCell_other w4 ⟨X, o, none⟩ z _ (hneX z hz1))
          · have g1 : Fr (fun k => k = X ∨ (Value.slice a n c).ownBlock = some k) w (wr.alloc (.cells #[.int .u8 x, .int .i64 t] 132)) := HF1.out.then_below ((Below.refl _ _).alloc (Nat.le_refl _) _)
            have g2 : Fr (fun k => k = X ∨ (Value.slice a n c).ownBlock = some k) w w4 := g1.trans (Fr.of_grown (X := fun z => (Value.slice a1 (n + k) c1).ownBlock = some z) HG4.out fun z hz1 _ => hz1) fun z hz1 e => by
              rcases HO1.out with e1 | ⟨y, e1, hy⟩
              · exact .inr (e1.symm.trans e)
              · rw [e1] at e; cases e; omega
            exact g2.trans (Fr.set (X := fun k => k = X) w4 X o _ rfl) fun _ _ e => .inl e
        case measure => simp [intOf]; omega
      · have hi : ¬ ((k : Int) < ((q : Nat) : Int)) := by omega
        have HE : Hid (k = q) := by rw [Hid]; omega
        have HEND : Hid (∃ v', Blk wr X (cs.setIfInBounds o v') tt ∧ FedP wr base v' (lineFeed t l bs).1 ∧ Fr (fun k => k = X ∨ (Value.slice a n c).ownBlock = some k) w wr ∧ (v'.ownBlock = (Value.slice a n c).ownBlock ∨ ∃ k, v'.ownBlock = some k ∧ w.heap.size ≤ k)) := by
          refine ⟨v1, b1, ?_, f1, o1⟩
          rw [HLF.out]
          rw [HE.out] at j1
          rw [List.take_of_length_le (by rw [HM.out]; exact Nat.le_refl _)] at j1; rw [List.take_of_length_le (by rw [HM.out]; exact hle)]; exact j1
        clear b1 j1 f1 o1
        go_wp2
        go_ret
        refine ⟨ret_int ?_, HEND.out⟩
        rw [HLF.out]
        simp only
        omega
  · have hle2 : ¬ ((q : Int) ≤ 32 - (n : Int)) := by omega
    have hle3 : (32 - (n : Int)) ≤ (q : Int) := by omega
    have hle4 : (32 - (n : Int)) < (q : Int) := by omega
    go_enter Try.func41, Try.ntmps41
    go_wp2_with fail
    go_loopw [23] (fun kv wr => ∃ (k : Nat) (v' : Value), kv = .int .i64 k ∧ k ≤ (32 - n) ∧ Blk wr X (cs.setIfInBounds o v') tt ∧ FedP wr base v' (l ++ (bs.take k).map (tag t)) ∧ Fr (fun k => k = X ∨ (Value.slice a n c).ownBlock = some k) w wr ∧ (v'.ownBlock = (Value.slice a n c).ownBlock ∨ ∃ k, v'.ownBlock = some k ∧ w.heap.size ≤ k)) (fun kv _ => (32 - n) - (intOf kv).toNat)
    case atStart => exact ⟨0, .slice a n c, rfl, Nat.zero_le _, HSET.out, HJ0.out, Fr.refl _ _, .inl rfl⟩
    case round =>
      obtain ⟨k, v1, rfl, hk, b1, j1, f1, o1⟩ := hrel
      have hsz := f1.size
      have hx1 := b1.lt
      by_cases hlt : k < (32 - n)
      · have hi : (k : Int) < (((32 - n) : Nat) : Int) := by omega
        obtain ⟨x, hx⟩ := get_of_lt (l := bs) (k := k) (by rw [HM.out]; omega)
        rcases HBB.out with he | ⟨b, bo, hba, hb1, hb2, hb3⟩
        · rw [he] at hx; simp at hx
        subst hba
        have hbX : b ≠ X := fun e => hb2 (e ▸ HS.out.1)
        have hbv : ¬ ((Value.slice a n c).ownBlock = some b) := fun e => hb2 (HS.out.2 b e)
        have cb : wr.cell? ⟨b, bo + k, none⟩ = some (.int .u8 x) := (f1.cell (p := ⟨b, bo + k, none⟩) hb1 (by rintro (e | e); exact hbX e; exact hbv e)).trans (hb3 k x hx)
        have hv1X : ∀ q, v1.ownBlock = some q → q ≠ X := by
          rintro q hq rfl
          rcases o1 with e | ⟨z, e, hz⟩
          · exact hX (e.symm.trans hq)
          · rw [e] at hq; cases hq; omega
        have hl1 : (l ++ (bs.take k).map (tag t)).length = n + k := by rw [List.length_append, List.length_map, List.length_take, HN.out, HM.out]; omega
        have HTK : Hid (l ++ (bs.take (k + 1)).map (tag t) = (l ++ (bs.take k).map (tag t)) ++ [⟨x, t⟩]) := by rw [Hid, take_snoc hx, List.map_append, ← List.append_assoc]; rfl
        generalize l ++ (bs.take k).map (tag t) = L1 at *
        obtain ⟨a1, c1, hv1⟩ := ownsRow_slice j1
        rw [hl1] at hv1
        subst hv1
        have d0 : wr.cell? ⟨X, o, none⟩ = some (.slice a1 (n + k) c1) := (b1.cell o).trans (by simp [ho])
        have d0f := b1.free o
        have HB1 := hide b1
        have HJ1 := hide j1
        have HF1 := hide f1
        have HO1 := hide o1
        have HV1 := hide hv1X
        have HL1 := hide hl1
        clear b1 j1 f1 o1 hb3 hx hv1X hl1
        go_wp2_with (at_builtin; go_must (refine wpList_appFed rfl _ _ rfl base _ L1 ⟨x, t⟩ rfl (HJ1.out.later ((Below.refl _ _).alloc (Nat.le_refl _) _)) ⟨wr.heap.size, 0, none⟩ 1 rfl (fresh_cells wr [.int .u8 x, .int .i64 t] 132 _ rfl) (by rw [HL1.out]; omega) (by simp; omega) ?_))
        intro v2 w4 j4 g4 o4
        have b4 : Blk w4 X (cs.setIfInBounds o (.slice a1 (n + k) c1)) tt := (g4.block X (by simp; omega) (fun e => HV1.out X e.symm rfl)).trans (HB1.out.alloc _)
        have e0 : w4.cell? ⟨X, o, none⟩ = some (.slice a1 (n + k) c1) := (b4.cell o).trans (by simp [ho])
        have e0f := b4.free o
        obtain ⟨a2, c2, hv2⟩ := ownsRow_slice j4
        subst hv2
        have HJ4 := hide j4
        have HG4 := hide g4
        have HO4 := hide o4
        have HB4 := hide b4
        clear j4 g4 o4 b4 d0 d0f
        go_wp2
        go_roundw
        case rel =>
          have hz : (wr.alloc (.cells #[.int .u8 x, .int .i64 t] 132)).heap.size = wr.heap.size + 1 := by simp
          have hnew : (Value.slice a2 (L1 ++ [(⟨x, t⟩ : Fd)]).length c2).ownBlock = (Value.slice a n c).ownBlock ∨ ∃ z, (Value.slice a2 (L1 ++ [(⟨x, t⟩ : Fd)]).length c2).ownBlock = some z ∧ w.heap.size ≤ z := by
            rcases HO4.out with e | e
            · rcases HO1.out with e1 | ⟨z, e1, hz1⟩
              · exact .inl (e.trans e1)
              · exact .inr ⟨z, e.trans e1, hz1⟩
            · exact .inr ⟨_, e, by omega⟩
          have hneX : ∀ z, (Value.slice a2 (L1 ++ [(⟨x, t⟩ : Fd)]).length c2).ownBlock = some z → z ≠ X := by
            rintro z hz1 rfl
            rcases hnew with e | ⟨y, e, hy⟩
            · exact hX (e.symm.trans hz1)
            · rw [e] at hz1; cases hz1; omega
          refine ⟨k + 1, .slice a2 (L1 ++ [(⟨x, t⟩ : Fd)]).length c2, by go_num, by omega, ?_, ?_, ?_, hnew⟩
          · have := HB4.out.set o (.slice a2 (L1 ++ [(⟨x, t⟩ : Fd)]).length c2)
            simpa using this
          · rw [HTK.out]
            exact (HJ4.out.same fun z hz1 => heap_setCell_other w4 ⟨X, o, none⟩ z _ (hneX z hz1))
          · have g1 : Fr (fun k => k = X ∨ (Value.slice a n c).ownBlock = some k) w (wr.alloc (.cells #[.int .u8 x, .int .i64 t] 132)) := HF1.out.then_below ((Below.refl _ _).alloc (Nat.le_refl _) _)
            have g2 : Fr (fun k => k = X ∨ (Value.slice a n c).ownBlock = some k) w w4 := g1.trans (Fr.of_grown (X := fun z => (Value.slice a1 (n + k) c1).ownBlock = some z) HG4.out fun z hz1 _ => hz1) fun z hz1 e => by
              rcases HO1.out with e1 | ⟨y, e1, hy⟩
              · exact .inr (e1.symm.trans e)
              · rw [e1] at e; cases e; omega
            exact g2.trans (Fr.set (X := fun k => k = X) w4 X o _ rfl) fun _ _ e => .inl e
        case measure => simp [intOf]; omega
      · have hi : ¬ ((k : Int) < (((32 - n) : Nat) : Int)) := by omega
        have HE : Hid (k = (32 - n)) := by rw [Hid]; omega
        have HEND : Hid (∃ v', Blk wr X (cs.setIfInBounds o v') tt ∧ FedP wr base v' (lineFeed t l bs).1 ∧ Fr (fun k => k = X ∨ (Value.slice a n c).ownBlock = some k) w wr ∧ (v'.ownBlock = (Value.slice a n c).ownBlock ∨ ∃ k, v'.ownBlock = some k ∧ w.heap.size ≤ k)) := by
          refine ⟨v1, b1, ?_, f1, o1⟩
          rw [HLF.out]
          rw [HE.out] at j1
          exact j1
        clear b1 j1 f1 o1
        go_wp2
        go_ret
        refine ⟨ret_int ?_, HEND.out⟩
        rw [HLF.out]
        simp only
        omega

end Go.Proofs.Ythloffgebebijaa

/- LineF: the walk of a line's Read. -/
namespace Go.Proofs.Ythloffgebebijaa
open Go.RowKit

theorem lnRead_fuel : ∀ (f g : Nat) (l : List Fd), l.length ≤ f → l.length ≤ g → lnRead f l = lnRead g l
  | 0, 0, _, _, _ => rfl
  | 0, g + 1, l, hf, _ => by
    obtain rfl : l = [] := List.length_eq_zero_iff.1 (by omega)
    simp [lnRead]
  | f + 1, 0, l, _, hg => by
    obtain rfl : l = [] := List.length_eq_zero_iff.1 (by omega)
    simp [lnRead]
  | f + 1, g + 1, l, hf, hg => by
    rw [lnRead, lnRead]
    by_cases h1 : l = [] ∨ unfin l = true
    · rw [if_pos h1, if_pos h1]
    · have hp : 0 < l.length := List.length_pos_iff.2 fun e => h1 (.inl e)
      rw [if_neg h1, if_neg h1, lnRead_fuel f g (l.drop 4) (by rw [List.length_drop]; omega) (by rw [List.length_drop]; omega), lnRead_fuel f g (l.drop 1) (by rw [List.length_drop]; omega) (by rw [List.length_drop]; omega)]
/-- The reading, with the fuel that it needs. -/
def lnR (l : List Fd) : List Mg × Nat × List Fd := lnRead l.length l
theorem lnR_stop {l : List Fd} (h : l = [] ∨ unfin l = true) : lnR l = ([], 0, l) := by
  unfold lnR
  cases hl : l.length with
  | zero => rfl
  | succ n => rw [lnRead, if_pos h]
theorem lnR_msg {l : List Fd} (h : ¬ (l = [] ∨ unfin l = true)) (hm : isMg l = true) : lnR l = (mgOf l :: (lnR (l.drop 4)).1, (lnR (l.drop 4)).2.1, (lnR (l.drop 4)).2.2) := by
  have hp : 0 < l.length := List.length_pos_iff.2 fun e => h (.inl e)
  unfold lnR
  obtain ⟨n, hn⟩ : ∃ n, l.length = n + 1 := ⟨l.length - 1, by omega⟩
  conv => lhs; rw [hn]
  rw [lnRead, if_neg h, if_pos hm, lnRead_fuel n (l.drop 4).length (l.drop 4) (by rw [List.length_drop]; omega) (Nat.le_refl _)]
theorem lnR_bad {l : List Fd} (h : ¬ (l = [] ∨ unfin l = true)) (hm : isMg l = false) : lnR l = ((lnR (l.drop 1)).1, (lnR (l.drop 1)).2.1 + 1, (lnR (l.drop 1)).2.2) := by
  have hp : 0 < l.length := List.length_pos_iff.2 fun e => h (.inl e)
  unfold lnR
  obtain ⟨n, hn⟩ : ∃ n, l.length = n + 1 := ⟨l.length - 1, by omega⟩
  conv => lhs; rw [hn]
  rw [lnRead, if_neg h, if_neg (by simp [hm]), lnRead_fuel n (l.drop 1).length (l.drop 1) (by rw [List.length_drop]; omega) (Nat.le_refl _)]
theorem isMg_four {l : List Fd} (h : isMg l = true) : 4 ≤ l.length := by
  match l, h with
  | _ :: _ :: _ :: _ :: _, _ => simp

def mgCells (m : Mg) : List Value := [.int .i64 m.task, .int .i64 m.cost, .int .i64 m.tick]
def mrow (ms : List Mg) : List Value := (ms.map mgCells).flatten
theorem mrow_append (a b : List Mg) : mrow (a ++ b) = mrow a ++ mrow b := by simp [mrow]
/-- Messages, in a row of the call's own. -/
def MsgP (w : World) (base : Nat) (v : Value) (ms : List Mg) : Prop := w.ownsRow base 148 3 v ms.length (mrow ms)
theorem MsgP.later {w w' : World} {base : Nat} {v : Value} {ms : List Mg} (h : MsgP w base v ms) (hb : Below w.heap.size w w') : MsgP w' base v ms := ownsRow_same h fun k hk => hb.block k (ownsRow_lt h hk).2

theorem info_msg : (Try.prog.info? 148).map (fun i => (i.zero, i.size, i.bytes)) = some (some (.agg #[.int .i64 0, .int .i64 0, .int .i64 0]), 3, 24) := by kernel_rfl
theorem wpList_appMsg {w : World} {ops : Array Oper} {rest : List Oper} {o : Oper} {a : Act} {Q : Exit → Act → World → Prop} (hgd : o.guard = none) (s x : Operand)
    (ho : o.op = .call { callee := .builtin .append, args := #[s, x], argTypes := #[144, 144] })
    (base : Nat) (v : Value) (l : List Mg) (f : Mg) (hs : a.eval s = v) (hown : MsgP w base v l) (ad : Addr) (c : Nat) (hx : a.eval x = .slice (some ad) 1 c) (hnews : ∀ j u, (mgCells f)[j]? = some u → w.cell? (ad.add j) = some u) (hlen : l.length ≤ 1000000) (hbase : base ≤ w.heap.size)
    (h : ∀ v' w', MsgP w' base v' (l ++ [f]) → w.grownBy w' v.ownBlock → wpList Try.prog ops Q rest (a.put o.dst v') w') :
    wpList Try.prog ops Q (o :: rest) a w := by
  obtain ⟨i0, hi0, hz0, hz1, hz2⟩ := info_parts info_msg
  refine wpList_append_own_at _ hgd s x 144 ho base 148 i0 (.agg #[.int .i64 0, .int .i64 0, .int .i64 0]) 3 24 Try.underlying144 hi0 hz0 hz1 hz2 rfl (by decide) v l.length (mrow l) hs hown ad 1 c (mgCells f) hx rfl hnews ?_ (by unfold maxLen; omega) (by omega) hbase ?_
  · intro u hu
    simp only [mgCells, List.mem_cons, List.not_mem_nil, or_false] at hu
    rcases hu with rfl | rfl | rfl <;> rfl
  · intro v' w' o1 g1 _ _
    refine h v' w' ?_ g1
    unfold MsgP
    rw [mrow_append, List.length_append]
    have e : mrow [f] = mgCells f := by simp [mrow]
    rw [e]
    exact o1

def lenS : Value → Nat
  | .slice _ n _ => n
  | _ => 0
/-- The rest of a line that is read: a slice of its row from the place q on. -/
def RestV (rv : Value) (g q : Nat) (R : List Fd) : Prop := ∃ a c, rv = .slice a R.length c ∧ R.length ≤ c ∧ c ≤ maxLen ∧ (R = [] ∨ a = some ⟨g, q * 2, none⟩)

theorem RestV.step {g q rl rc : Nat} (k : Nat) {R R' : List Fd} {A : Option Addr} (hR : R.length = rl) (hR' : R' = R.drop k) (hk : k ≤ rl) (hc : rl ≤ rc) (hm : rc ≤ maxLen) (hA : A = if rc = k then some ⟨g, q * 2, none⟩ else some ⟨g, q * 2 + k * 2, none⟩) : RestV (.slice A (rl - k) (rc - k)) g (q + k) R' := by
  refine ⟨A, rc - k, by rw [hR', List.length_drop, hR], by rw [hR', List.length_drop, hR]; omega, by omega, ?_⟩
  by_cases h : rc = k
  · left
    rw [hR']
    exact List.drop_eq_nil_of_le (by omega)
  · right
    rw [hA, if_neg h, Nat.add_mul]

set_option maxRecDepth 100000 in
set_option maxHeartbeats 3200000 in
theorem lRead_any (base X o : Nat) (cs : Array Value) (tt : TypeId) (v : Value) (l : List Fd) (t : Int) (w : World) (hB : Blk w X cs tt) (hcs : cs[o]? = some v) (h : FedP w base v l) (hX : v.ownBlock ≠ some X) (hl : l.length ≤ 32) (hin : ∀ f ∈ l, FdIn f) (hbase : base ≤ w.heap.size) :
    Calls Try.prog 76 #[.pointer (some ⟨X, o, none⟩), .int .i64 t] w fun e w' => ∃ mv v', e = .returned (.tuple #[mv, .int .i64 (lnR (l.take (fedBy t l))).2.1]) ∧ MsgP w' w.heap.size mv (lnR (l.take (fedBy t l))).1 ∧ Blk w' X (cs.setIfInBounds o v') tt ∧ FedP w' base v' (l.drop (fedBy t l - (lnR (l.take (fedBy t l))).2.2.length)) ∧ Fr (fun k => k = X ∨ v.ownBlock = some k) w w' ∧ v'.ownBlock = v.ownBlock := by
  have ho : o < cs.size := by
    rcases Nat.lt_or_ge o cs.size with h' | h'
    · exact h'
    · rw [Array.getElem?_eq_none h'] at hcs; cases hcs
  obtain ⟨a, c, hve⟩ := ownsRow_slice h
  subst hve
  have hXl := hB.lt
  have c0 : w.cell? ⟨X, o, none⟩ = some (.slice a l.length c) := (hB.cell o).trans hcs
  have hlc : l.length ≤ c ∧ c ≤ maxLen := by
    rcases h.2 with ⟨h2, h3⟩ | ⟨g', cap', cur, h2, _, _, h3, h4, _⟩
    · simp at h2; unfold maxLen; omega
    · simp at h2; omega
  obtain ⟨g, hg⟩ : ∃ g, l = [] ∨ a = some ⟨g, 0, none⟩ := by
    rcases h.2 with ⟨h2, h3⟩ | ⟨g', cap', cur, h2, _⟩
    · exact ⟨0, .inl (List.length_eq_zero_iff.1 h3)⟩
    · simp at h2; exact ⟨g', .inr h2.1⟩
  have HFB := hide (fedBy_any base X o (.slice a l.length c) l t w c0 h (by omega))
  have hfl := fedBy_le t l
  generalize hF : fedBy t l = fb at *
  have HR0 : Hid (RestV (.slice a fb c) g 0 (l.take fb)) := ⟨a, c, by rw [List.length_take, Nat.min_eq_left hfl], by rw [List.length_take]; omega, hlc.2, by
    rcases hg with e | e
    · exact .inl (by rw [e, List.take_nil])
    · exact .inr (by rw [e])⟩
  have HB := hide hB
  have HJ := hide h
  have HIN := hide hin
  generalize hN : l.length = n at *
  have HN := hide hN
  obtain ⟨hlc1, hlc2⟩ := hlc
  have HG := hide hg
  clear hB h hin hN hF hg
  go_enter Try.func76, Try.ntmps76
  go_wp2_with fail
  refine HFB.out.mono ?_
  rintro e w1 ⟨rfl, rfl⟩
  have hfi : (fb : Int) ≤ (n : Int) := by omega
  go_wp2_with fail
  go_loopw [6, 7, 9] (fun mv bv rv wr => ∃ (q : Nat) (ms : List Mg) (nb : Nat), bv = .int .i64 nb ∧ q ≤ fb ∧ RestV rv g q ((l.take fb).drop q) ∧ MsgP wr w1.heap.size mv ms ∧ lnR (l.take fb) = (ms ++ (lnR ((l.take fb).drop q)).1, nb + (lnR ((l.take fb).drop q)).2.1, (lnR ((l.take fb).drop q)).2.2) ∧ ms.length + nb ≤ q ∧ Below w1.heap.size w1 wr) (fun _ _ rv _ => lenS rv)
  case atStart => exact ⟨0, [], 0, rfl, Nat.zero_le _, HR0.out, World.ownsRow_nil _ _ _ _, by simp, by simp, Below.refl _ _⟩
  case round =>
    obtain ⟨q, ms, nb, rfl, hq, hrv, hms, heq, hsum, hbe⟩ := hrel
    obtain ⟨ra, rc, rfl, hrc, hrc2, hra⟩ := hrv
    have hz := hbe.size
    have hRl : ((l.take fb).drop q).length = fb - q := by rw [List.length_drop, List.length_take, HN.out]; omega
    obtain ⟨ma, mc, hmv⟩ := ownsRow_slice hms
    subst hmv
    have d0 : wr.cell? ⟨X, o, none⟩ = some (.slice a n c) := (hbe.cell (p := ⟨X, o, none⟩) hXl).trans c0
    have HJr := hide (HJ.out.later hbe)
    have HBr : Hid (Blk wr X cs tt) := HB.out.later hbe hXl
    have HRIN : Hid (∀ f ∈ (l.take fb).drop q, FdIn f) := fun f hf => HIN.out f (List.mem_of_mem_take (List.mem_of_mem_drop hf))
    have HMS := hide hms
    have HEQ := hide heq
    have HBE := hide hbe
    have hXr := HBr.out.lt
    have hrl32 : ((l.take fb).drop q).length ≤ 32 := by omega
    have hrlfb : ((l.take fb).drop q).length ≤ fb := by omega
    clear hms heq hbe
    by_cases hne : (l.take fb).drop q = []
    · have HSTOP : Hid ((l.take fb).drop q = [] ∨ unfin ((l.take fb).drop q) = true) := .inl hne
      have hl0 : ((l.take fb).drop q).length = 0 := by rw [hne]; rfl
      have HRL : Hid (((l.take fb).drop q).length = 0) := hl0
      rw [hl0]
      clear hne hra hRl
      have HST : Hid (lnR (l.take fb) = (ms, nb, (l.take fb).drop q)) := by rw [Hid, HEQ.out, lnR_stop HSTOP.out]; simp
      have HDEL : Hid (Calls Try.prog 84 #[.slice a n c, .int .i64 0, .int .i64 ((fb : Int) - (0 : Int))] wr fun e w' => ∃ v', e = .returned v' ∧ FedP w' base v' (l.drop (fb - 0)) ∧ v'.ownBlock = (Value.slice a n c).ownBlock ∧ Fr (fun q => (Value.slice a n c).ownBlock = some q) wr w') := by
        have := delete_any base (.slice a n c) l (fb - 0) wr HJr.out (by rw [HN.out]; omega) (by rw [HN.out]; omega)
        rw [show ((fb - 0 : Nat) : Int) = (fb : Int) - (0 : Int) from by omega] at this
        exact this
      go_wp2_with fail
      refine HDEL.out.mono ?_
      rintro e w3 ⟨v3, rfl, j3, o3, f3⟩
      have b3 : Blk w3 X cs tt := (f3.block X HBr.out.lt hX).trans HBr.out
      have e0 : w3.cell? ⟨X, o, none⟩ = some (.slice a n c) := (b3.cell o).trans hcs
      have e0f := b3.free o
      obtain ⟨a3, c3, hv3⟩ := ownsRow_slice j3
      generalize (l.drop (fb - 0)).length = n3 at hv3
      subst hv3
      have HJ3 := hide j3
      have HF3 := hide f3
      have HB3 := hide b3
      have HO3 := hide o3
      clear j3 f3 b3 o3
      go_wp2
      go_ret2
      have hmB : ∀ z, (Value.slice ma ms.length mc).ownBlock = some z → w1.heap.size ≤ z ∧ z < wr.heap.size := fun z hz1 => ownsRow_lt HMS.out hz1
      have hvB : ∀ z, (Value.slice a n c).ownBlock = some z → z < w1.heap.size := fun z hz1 => (ownsRow_lt HJ.out hz1).2
      refine ⟨.slice ma ms.length mc, _, by rw [HST.out]; rfl, ?_, HB3.out.set o _, ?_, ?_, HO3.out⟩
      · rw [HST.out]
        refine ownsRow_same HMS.out fun z hz1 => ?_
        have hz2 := hmB z hz1
        rw [heap_setCell_other w3 ⟨X, o, none⟩ z _ (by simp; omega)]
        exact HF3.out.block z hz2.2 (fun e => by have := hvB z e; omega)
      · rw [HST.out]
        simp only
        rw [HRL.out]
        exact HJ3.out.same fun z hz1 => heap_setCell_other w3 ⟨X, o, none⟩ z _ (fun e => hX (by rw [← HO3.out, hz1, e]))
      · have f1 : Fr (fun k => k = X ∨ (Value.slice a n c).ownBlock = some k) w1 w3 := (Fr.of_below (X := fun k => k = X ∨ (Value.slice a n c).ownBlock = some k) HBE.out).trans HF3.out fun _ _ e => .inr e
        exact f1.trans (Fr.set (X := fun k => k = X) w3 X o _ rfl) fun _ _ e => .inl e
    · have ha : a = some ⟨g, 0, none⟩ := by
        rcases HG.out with e | e
        · exact absurd (by rw [e]; simp) hne
        · exact e
      have hra2 : ra = some ⟨g, q * 2, none⟩ := hra.resolve_left hne
      subst ha
      subst hra2
      have HV := hide (HJr.out.view q fb rc)
      have HUN := hide (unfin_any wr.heap.size _ _ wr HV.out hne)
      have HISM := hide (isMsg_any wr.heap.size _ _ wr HV.out HRIN.out (by omega))
      have HMSG : Hid (∀ w2, Below wr.heap.size wr w2 → isMg ((l.take fb).drop q) = true → Calls Try.prog 83 #[.slice (some ⟨g, q * 2, none⟩) ((l.take fb).drop q).length rc] w2 fun e w' => e = .returned (.agg #[.int .i64 (mgOf ((l.take fb).drop q)).task, .int .i64 (mgOf ((l.take fb).drop q)).cost, .int .i64 (mgOf ((l.take fb).drop q)).tick]) ∧ Below w2.heap.size w2 w') := fun w2 hb2 hm => msg_any wr.heap.size _ _ w2 (HV.out.later hb2 (Nat.le_refl _)) hb2.size HRIN.out hm (by omega)
      have hpos : 0 < ((l.take fb).drop q).length := List.length_pos_iff.2 hne
      have HNE := hide hne
      have HRR : Hid (((l.take fb).drop q).length = ((l.take fb).drop q).length) := rfl
      obtain ⟨rl, hrl⟩ : ∃ rl, ((l.take fb).drop q).length = rl := ⟨_, rfl⟩
      have HRL := hide hrl
      rw [hrl] at HUN HISM HMSG hpos hrc hRl hrl32 hrlfb ⊢
      have hpi : (0 : Int) < (rl : Int) := by omega
      have HQR := hide hRl
      clear hra hne hrl HRR HV hRl
      cases hun : unfin ((l.take fb).drop q) with
      | true =>
        have HSTOP : Hid ((l.take fb).drop q = [] ∨ unfin ((l.take fb).drop q) = true) := .inr hun
        have HUNF := hide hun
        clear hun
        have HST : Hid (lnR (l.take fb) = (ms, nb, (l.take fb).drop q)) := by rw [Hid, HEQ.out, lnR_stop HSTOP.out]; simp
        have HDEL : Hid (Calls Try.prog 84 #[.slice (some ⟨g, 0, none⟩) n c, .int .i64 0, .int .i64 ((fb : Int) - (rl : Int))] wr fun e w' => ∃ v', e = .returned v' ∧ FedP w' base v' (l.drop (fb - rl)) ∧ v'.ownBlock = (Value.slice (some ⟨g, 0, none⟩) n c).ownBlock ∧ Fr (fun q => (Value.slice (some ⟨g, 0, none⟩) n c).ownBlock = some q) wr w') := by
          have := delete_any base (.slice (some ⟨g, 0, none⟩) n c) l (fb - rl) wr HJr.out (by rw [HN.out]; omega) (by rw [HN.out]; omega)
          rw [show ((fb - rl : Nat) : Int) = (fb : Int) - (rl : Int) from by omega] at this
          exact this
        go_wp2_with (go_at_call 81; refine HUN.out.mono ?_; rintro e w2 ⟨he, hw2⟩; have hw3 := hw2.symm; subst hw3; rw [HUNF.out] at he; subst he)
        refine HDEL.out.mono ?_
        rintro e w3 ⟨v3, rfl, j3, o3, f3⟩
        have b3 : Blk w3 X cs tt := (f3.block X HBr.out.lt hX).trans HBr.out
        have e0 : w3.cell? ⟨X, o, none⟩ = some (.slice (some ⟨g, 0, none⟩) n c) := (b3.cell o).trans hcs
        have e0f := b3.free o
        obtain ⟨a3, c3, hv3⟩ := ownsRow_slice j3
        generalize (l.drop (fb - rl)).length = n3 at hv3
        subst hv3
        have HJ3 := hide j3
        have HF3 := hide f3
        have HB3 := hide b3
        have HO3 := hide o3
        clear j3 f3 b3 o3
        go_wp2
        go_ret2
        have hmB : ∀ z, (Value.slice ma ms.length mc).ownBlock = some z → w1.heap.size ≤ z ∧ z < wr.heap.size := fun z hz1 => ownsRow_lt HMS.out hz1
        have hvB : ∀ z, (Value.slice (some ⟨g, 0, none⟩) n c).ownBlock = some z → z < w1.heap.size := fun z hz1 => (ownsRow_lt HJ.out hz1).2
        refine ⟨.slice ma ms.length mc, _, by rw [HST.out]; rfl, ?_, HB3.out.set o _, ?_, ?_, HO3.out⟩
        · rw [HST.out]
          refine ownsRow_same HMS.out fun z hz1 => ?_
          have hz2 := hmB z hz1
          rw [heap_setCell_other w3 ⟨X, o, none⟩ z _ (by simp; omega)]
          exact HF3.out.block z hz2.2 (fun e => by have := hvB z e; omega)
        · rw [HST.out]
          simp only
          rw [HRL.out]
          exact HJ3.out.same fun z hz1 => heap_setCell_other w3 ⟨X, o, none⟩ z _ (fun e => hX (by rw [← HO3.out, hz1, e]))
        · have f1 : Fr (fun k => k = X ∨ (Value.slice (some ⟨g, 0, none⟩) n c).ownBlock = some k) w1 w3 := (Fr.of_below (X := fun k => k = X ∨ (Value.slice (some ⟨g, 0, none⟩) n c).ownBlock = some k) HBE.out).trans HF3.out fun _ _ e => .inr e
          exact f1.trans (Fr.set (X := fun k => k = X) w3 X o _ rfl) fun _ _ e => .inl e
      | false =>
        have HUNF := hide hun
        have HGO : Hid (¬ ((l.take fb).drop q = [] ∨ unfin ((l.take fb).drop q) = true)) := by
          rintro (e | e)
          · exact HNE.out e
          · rw [HUNF.out] at e; cases e
        clear hun
        cases him : isMg ((l.take fb).drop q) with
        | false =>
          have HIM := hide him
          clear him
          go_wp2_with fail
          refine HUN.out.mono ?_
          rintro e w2 ⟨he, hw2⟩
          have hw3 := hw2.symm
          subst hw3
          rw [HUNF.out] at he
          subst he
          go_wp2_with fail
          refine HISM.out.mono ?_
          rintro e w2 ⟨he, q2⟩
          rw [HIM.out] at he
          subst he
          have HQ2 := hide q2
          clear q2
          have h1i : (1 : Int) ≤ (rl : Int) := by omega
          have h1c : 1 ≤ rc := by omega
          have h1n : 1 ≤ rl := by omega
          go_wp2
          go_roundw
          case rel =>
            refine ⟨q + 1, ms, nb + 1, by go_num, by have := HQR.out; omega, RestV.step 1 HRL.out (by rw [List.drop_drop]) h1n (by omega) hrc2 rfl, HMS.out.later HQ2.out, ?_, by omega, HBE.out.trans (HQ2.out.mono hz)⟩
            have := HEQ.out
            rw [lnR_bad HGO.out HIM.out, List.drop_drop] at this
            rw [this]
            simp only [Prod.mk.injEq, true_and, and_true]
            omega
          case measure => simp only [lenS]; omega
        | true =>
          have HIM := hide him
          have h4 : 4 ≤ rl := by have := isMg_four him; rw [HRL.out] at this; exact this
          clear him
          go_wp2_with fail
          refine HUN.out.mono ?_
          rintro e w2 ⟨he, hw2⟩
          have hw3 := hw2.symm
          subst hw3
          rw [HUNF.out] at he
          subst he
          go_wp2_with fail
          refine HISM.out.mono ?_
          rintro e w2 ⟨he, q2⟩
          rw [HIM.out] at he
          subst he
          have HQ2 := hide q2
          have HMSG2 := hide (HMSG.out w2 q2 HIM.out)
          have hz2 := q2.size
          clear q2
          go_wp2_with fail
          refine HMSG2.out.mono ?_
          rintro e w3 ⟨rfl, q3⟩
          have hz3 := q3.size
          have HQ3 : Hid (Below wr.heap.size wr w3) := HQ2.out.trans (q3.mono hz2)
          clear q3
          have h1i : (4 : Int) ≤ (rl : Int) := by omega
          have h1c : 4 ≤ rc := by omega
          obtain ⟨mg, hmg⟩ : ∃ mg, mgOf ((l.take fb).drop q) = mg := ⟨_, rfl⟩
          have HMG := hide hmg
          rw [hmg]
          obtain ⟨m0, m1, m2⟩ := mg
          simp only
          clear hmg
          have HMS3 := hide ((HMS.out.later HQ3.out).later ((Below.refl _ w3).alloc (Nat.le_refl _) (.cells #[.int .i64 m0, .int .i64 m1, .int .i64 m2] 148)))
          go_wp2_with (at_builtin; go_must (refine wpList_appMsg rfl _ _ rfl w1.heap.size _ ms ⟨m0, m1, m2⟩ rfl HMS3.out ⟨w3.heap.size, 0, none⟩ 1 rfl (fresh_cells w3 [.int .i64 m0, .int .i64 m1, .int .i64 m2] 148 _ rfl) (by omega) (by simp; omega) ?_))
          intro v4 w4 j4 g4
          obtain ⟨a4, c4, hv4⟩ := ownsRow_slice j4
          subst hv4
          have HJ4 := hide j4
          have HQ4 : Hid (Below w1.heap.size w1 w4) := by
            have b1 : Below w1.heap.size w1 (w3.alloc (.cells #[.int .i64 m0, .int .i64 m1, .int .i64 m2] 148)) := (HBE.out.trans (HQ3.out.mono hz)).alloc (by omega) _
            refine b1.trans (below_grownBy_new g4 (by simp; omega) fun z hz1 => (ownsRow_lt HMS.out hz1).1)
          clear j4 g4
          go_wp2
          go_roundw
          case rel =>
            refine ⟨q + 4, ms ++ [⟨m0, m1, m2⟩], nb, rfl, by have := HQR.out; omega, RestV.step 4 HRL.out (by rw [List.drop_drop]) h4 (by omega) hrc2 rfl, HJ4.out, ?_, by simp; omega, HQ4.out⟩
            have := HEQ.out
            rw [lnR_msg HGO.out HIM.out, List.drop_drop, HMG.out] at this
            rw [this]
            simp
          case measure => simp only [lenS]; omega

end Go.Proofs.Ythloffgebebijaa
