/- Str: strings as lists of bytes; the walks of tillerlaw's lent and back. -/
import Derived.Test.YthloffgebebijaaGreatBookK
import Derived.Test.YthloffgebebijaaGreatBytesB
import Derived.Test.YthloffgebebijaaGreatReadK
import Derived.Test.YthloffgebebijaaGreatLentK
import Derived.Laws.BytesArg
import Derived.Lib.LazyBuf
import Derived.Deep.DeepMust
namespace Go.Proofs.YthloffgebebijaaGreat
open Go.RowKit

def sbytes (s : ByteArray) : List Int := s.data.toList.map fun x => (x.toNat : Int)
theorem sbytes_length (s : ByteArray) : (sbytes s).length = s.size := by
  rw [sbytes, List.length_map, Array.length_toList]
  rfl
theorem sbytes_all (s : ByteArray) : AllB (sbytes s) := by
  intro x hx
  simp only [sbytes, List.mem_map] at hx
  obtain ⟨b, _, rfl⟩ := hx
  have := b.toNat_lt
  omega
theorem str_sbytes (s : ByteArray) : strOfNums (sbytes s) = s := by
  cases s with
  | mk d => simp [strOfNums, sbytes, List.map_map, Function.comp_def]
theorem strOfNums_inj {a b : List Int} (ha : AllB a) (hb : AllB b) (h : strOfNums a = strOfNums b) : a = b := by
  have h1 : (strOfNums a).data.toList = (strOfNums b).data.toList := by rw [h]
  rw [strOfNums_data, strOfNums_data] at h1
  have h2 : ∀ l : List Int, AllB l → (l.map fun n => UInt8.ofNat n.toNat).map (fun x => (x.toNat : Int)) = l := by
    intro l hl
    rw [List.map_map]
    conv => rhs; rw [← List.map_id l]
    apply List.map_congr_left
    intro x hx
    have := hl x hx
    simp only [Function.comp_apply, id]
    rw [show (UInt8.ofNat x.toNat).toNat = x.toNat % 256 from UInt8.toNat_ofNat' ..]
    omega
  rw [← h2 a ha, ← h2 b hb, h1]

theorem conv_rd8 {w : World} {B : Nat} {v : Value} {bs : List Int} (h : Rd8 w B v bs) : (convert 57 9 v).run Tryz.prog w = .ok (.string (strOfNums bs)) w := by
  obtain ⟨a, cap, rfl, hcap, hv⟩ := h
  cases bs with
  | nil =>
    cases a with
    | none => exact run_convert_bytes_nil w 57 5 Tryz.underlying57 Tryz.underlying5 _ _ 9 Tryz.underlying9
    | some a =>
      have := run_convert_bytes_back (P := Tryz.prog) w 57 9 5 a cap [] Tryz.underlying57 Tryz.underlying5 Tryz.underlying9 (by intro j hj; simp at hj)
      exact this
  | cons x r =>
    rcases hv with h0 | ⟨b, o, rfl, hb, hc⟩
    · cases h0
    · refine run_convert_bytes_arg w 57 5 Tryz.underlying57 Tryz.underlying5 b o _ cap (x :: r) rfl (fun i hi => ?_) 9 Tryz.underlying9
      obtain ⟨y, hy⟩ := get_of_lt hi
      rw [hc i y hy]
      simp [List.getD, hy]

theorem run_copy_str {P : Program} (w : World) (dT sT ty elem : TypeId) (g dLen dCap : Nat) (cur : Array Value) (t : TypeId) (s : ByteArray)
    (hu : P.underlying dT = some (.slice elem)) (hz : ∀ w, (Go.sizeOf elem).run P w = .ok 1 w) (hg : w.heap[g]? = some (.cells cur t (0, 0))) (hle : s.size ≤ dLen) (hfit : s.size ≤ cur.size) :
    (Builtin.copy_ #[dT, sT] ty #[.slice (some ⟨g, 0, none⟩) dLen dCap, .string s]).run P w = .ok (goInt s.size) (w.setRow g ((sbytes s).map (Value.int .u8) ++ cur.toList.drop s.size).toArray) := by
  have hmin : Nat.min s.size dLen = s.size := Nat.min_eq_left hle
  have hl : ((sbytes s).map (Value.int .u8)).length = s.size := by rw [List.length_map, sbytes_length]
  have hst := run_storeCells_at P g 0 t ((sbytes s).map (Value.int .u8)) 0 cur w hg (by rw [hl]; simpa using hfit) (ints_oneCell _ _)
  simp only [Nat.zero_add, List.take_zero, List.nil_append, hl] at hst
  have hmm : (sbytes s).map (Value.int .u8) = s.data.toList.map fun x => Value.int .u8 (x.toNat : Int) := by simp [sbytes, List.map_map, Function.comp_def]
  rw [hmm] at hst hl ⊢
  simp [Builtin.copy_, run_underlying hu, Builtin.lenOf, Builtin.firstCells, hz, hmin]
  rw [List.take_of_length_le (by rw [hl]; exact Nat.le_refl _), hst]
  rfl

theorem wpList_copy_str {P : Program} {w : World} {ops : Array Oper} {rest : List Oper} {o : Oper} {a : Act} {Q : Exit → Act → World → Prop} (hgd : o.guard = none) (d x : Operand) (dT sT : TypeId)
    (ho : o.op = .call { callee := .builtin .copy, args := #[d, x], argTypes := #[dT, sT] }) (elem : TypeId) (hu : P.underlying dT = some (.slice elem)) (hz : ∀ w, (Go.sizeOf elem).run P w = .ok 1 w)
    (g dLen dCap : Nat) (s : ByteArray) (hd : a.eval d = .slice (some ⟨g, 0, none⟩) dLen dCap) (hs : a.eval x = .string s)
    (cur : List Value) (t : TypeId) (hg : Blk w g cur.toArray t) (hle : s.size ≤ dLen) (hfit : s.size ≤ cur.length)
    (h : ∀ w', Hid (Blk w' g ((sbytes s).map (Value.int .u8) ++ cur.drop s.size).toArray t) → Hid (w.grownBy w' (some g)) → wpList P ops Q rest (a.put o.dst (goInt s.size)) w') : wpList P ops Q (o :: rest) a w := by
  refine wpList_plain hgd fun K hK => ?_
  have hrun := run_copy_str (P := P) w dT sT o.type elem g dLen dCap cur.toArray t s hu hz hg hle (by simpa using hfit)
  unfold Oper.wp
  simp [execOp, ho, resolve, invoke, builtin, hd, hs, hrun, Result.andThen]
  exact hK _ _ (h _ (setRow_heap w g _ _ t _ hg) ⟨rfl, rfl, rfl, by simp, fun k _ hk => setRow_other w g k _ (fun e => hk (by simp [e]))⟩)

def lentRow8 (s : ByteArray) : List Value := (sbytes s).map (Value.int .u8) ++ List.replicate 8 (.int .u8 77)

/-- Bytes that were lent. -/
def LentB (w : World) (H : Nat) (v : Value) (s : ByteArray) : Prop :=
  (v = .slice none 0 0 ∧ s.size = 0) ∨ ∃ g, v = .slice (some ⟨g, 0, none⟩) s.size (s.size + 8) ∧ H ≤ g ∧ Blk w g (lentRow8 s).toArray 5

theorem LentB.below {w w' : World} {H : Nat} {v : Value} {s : ByteArray} (h : LentB w H v s) (hb : Below w.heap.size w w') : LentB w' H v s :=
  h.imp id fun ⟨g, hv, hg, hk⟩ => ⟨g, hv, hg, hk.later hb hk.lt⟩
theorem LentB.rd {w : World} {H : Nat} {v : Value} {s : ByteArray} (h : LentB w H v s) : Rd8 w w.heap.size v (sbytes s) := by
  rcases h with ⟨rfl, h0⟩ | ⟨g, rfl, hg, hk⟩
  · have : sbytes s = [] := List.eq_nil_of_length_eq_zero (by rw [sbytes_length, h0])
    rw [this]
    exact ⟨none, 0, rfl, Nat.le_refl _, .inl rfl⟩
  · refine ⟨_, _, by rw [sbytes_length], by rw [sbytes_length]; omega, .inr ⟨g, 0, rfl, hk.lt, fun i x hi => ?_⟩⟩
    rw [Nat.zero_add, hk.cell]
    have hlt := lt_of_get hi
    simp only [lentRow8, List.getElem?_toArray]
    rw [List.getElem?_append_left (by simpa using hlt), List.getElem?_map, hi]
    rfl

theorem size_u8 : ∀ w, (Go.sizeOf 5).run Tryz.prog w = .ok 1 w := by
  intro w
  obtain ⟨i0, hi, hz0, hz1, hz2⟩ := info_parts info_u8
  simp [Go.sizeOf, typeInfo, hi, hz1]

theorem made1 (n : Nat) : (madeCells #[.int .u8 0] n).toList = List.replicate n (.int .u8 0) := by
  apply List.ext_getElem?
  intro i
  by_cases h : i < n
  · rw [List.getElem?_replicate, if_pos h]
    simp [madeCells, h, Nat.mod_one]
  · rw [List.getElem?_eq_none (by simp [madeCells]; omega), List.getElem?_eq_none (by simp; omega)]

end Go.Proofs.YthloffgebebijaaGreat

/- StrB: the walks of tillerlaw's lent and back. -/
namespace Go.Proofs.YthloffgebebijaaGreat
open Go.RowKit

theorem bytes_toList (s : ByteArray) : s.toList = s.data.toList := ByteArray.toList_eq s
theorem toList_nil {s : ByteArray} : s.toList = [] ↔ s.size = 0 := by
  rw [bytes_toList]
  constructor
  · intro h
    have : s.data.toList.length = 0 := by rw [h]; rfl
    simpa using this
  · intro h
    exact List.eq_nil_of_length_eq_zero (by simpa using h)

set_option maxRecDepth 100000 in
set_option maxHeartbeats 1600000 in
theorem lent_any (s : ByteArray) (b : Bool) (w : World) (hs : s.size ≤ 140737488351232) :
    Calls Tryz.prog 27 #[.string s, .bool b] w fun e w' => ∃ v, e = .returned v ∧ LentB w' w.heap.size v s ∧ Below w.heap.size w w' := by
  obtain ⟨i0, hi, hz0, hz1, hz2⟩ := info_parts info_u8
  have HI := hide (And.intro hi (And.intro hz0 (And.intro hz1 hz2))); clear hi hz0 hz1 hz2
  by_cases hc : s.toList = []
  · cases b with
    | true =>
      have HZ := hide (toList_nil.1 hc)
      go_enter Tryz.func27, Tryz.ntmps27
      go_wp2
      go_ret
      exact ⟨_, rfl, .inl ⟨rfl, HZ.out⟩, Below.refl _ _⟩
    | false =>
      go_enter Tryz.func27, Tryz.ntmps27
      go_wp2_with (at_make; go_must (refine wpList_make_full _ rfl _ _ 57 rfl w.heap.size 5 i0 _ 1 Tryz.underlying57 HI.out.1 HI.out.2.1 HI.out.2.2.1 .i64 .i64 _ _ (s.size + 8) rfl rfl rfl rfl ?_ ?_ ?_ ?_))
      · rw [HI.out.2.2.2]; omega
      · unfold maxLen; omega
      · omega
      intro w4 o4 g4
      obtain ⟨L4, hg0⟩ := own_blk o4
      rw [made1 (s.size + 8)] at L4
      have HL4 := hide L4
      have HB4 := hide (below_grownBy g4)
      have hz4 := L4.lt
      generalize hG : w.heap.size = G at *
      have HG := hide hG
      clear o4 g4 L4 hG hg0
      go_wp2_with (refine wpList_copy_str rfl _ _ 57 9 rfl 5 Tryz.underlying57 size_u8 G (s.size + 8) (s.size + 8) s rfl rfl _ 5 HL4.out (by omega) ?_ ?_)
      · rw [List.length_replicate]; omega
      intro w5 hl5 hg5
      have HB5 : Hid (Below G w w5) := HB4.out.trans (below_grownBy_new hg5.out (by omega) (by simp))
      have HL5 : Hid (Blk w5 G ((sbytes s).map (Value.int .u8) ++ (List.replicate 0 (Value.int .u8 77) ++ List.replicate (8 - 0) (Value.int .u8 0))).toArray 5) := by
        have := hl5.out
        simpa [Hid] using this
      clear hl5 hg5 HL4 HB4
      have hsl : ((sbytes s).map (Value.int .u8)).length = s.size := by rw [List.length_map, sbytes_length]
      have HSL := hide hsl
      clear hsl
      go_wp2_with fail
      go_loopw [6] (fun i wr => ∃ k : Nat, i = .int .i64 ((s.size : Int) + (k : Int)) ∧ k ≤ 8 ∧ Blk wr G ((sbytes s).map (Value.int .u8) ++ (List.replicate k (Value.int .u8 77) ++ List.replicate (8 - k) (Value.int .u8 0))).toArray 5 ∧ Below G w wr) (fun i _ => s.size + 8 - (intOf i).toNat)
      case atStart => exact ⟨0, by simp, by omega, HL5.out, HB5.out⟩
      case round =>
        obtain ⟨k, rfl, hk, hbl, hbe⟩ := hrel
        have HBL := hide hbl
        have HBE := hide hbe
        have hzr := hbl.lt
        clear hbl hbe
        by_cases hk8 : k < 8
        · obtain ⟨r, hr⟩ : ∃ r, 8 - k = r + 1 := ⟨8 - k - 1, by omega⟩
          have HBL2 : Hid (Blk wr G (((sbytes s).map (Value.int .u8) ++ List.replicate k (Value.int .u8 77)) ++ List.replicate (r + 1) (Value.int .u8 0)).toArray 5) := by
            have := HBL.out
            rw [hr, ← List.append_assoc] at this
            exact this
          have hlen : ((sbytes s).map (Value.int .u8) ++ List.replicate k (Value.int .u8 77)).length = s.size + k := by rw [List.length_append, HSL.out, List.length_replicate]
          have HLEN := hide hlen
          have HR := hide hr
          have f0 : wr.cell? ⟨G, s.size + k, none⟩ = some (.int .u8 0) := by
            rw [HBL2.out.cell, List.getElem?_toArray, List.getElem?_append_right (by omega), hlen]
            simp
          have f1 := HBL2.out.free (s.size + k)
          have hidx : ((s.size : Int) + (k : Int)).toNat = s.size + k := by omega
          have hi8 : (s.size : Int) + (k : Int) < (s.size : Int) + 8 := by omega
          clear hlen hr
          go_wp2
          go_roundw
          case rel =>
            refine ⟨k + 1, by go_num, by omega, ?_, HBE.out.setCell (by simp) _⟩
            have := HBL2.out.set (s.size + k) (.int .u8 77)
            rw [show 8 - (k + 1) = r from by have := HR.out; omega, List.replicate_succ', ← List.append_assoc, ← List.append_assoc, ← set_next (b := Value.int .u8 0) (r := r) HLEN.out]
            simpa using this
          case measure => simp [intOf]; omega
        · obtain rfl : k = 8 := by omega
          go_wp2
          go_ret
          refine ⟨_, rfl, .inr ⟨G, rfl, by rw [HG.out]; exact Nat.le_refl _, ?_⟩, by rw [HG.out]; exact HBE.out⟩
          simpa [lentRow8] using HBL.out
  · go_enter Tryz.func27, Tryz.ntmps27
    go_wp2_with (at_make; go_must (refine wpList_make_full _ rfl _ _ 57 rfl w.heap.size 5 i0 _ 1 Tryz.underlying57 HI.out.1 HI.out.2.1 HI.out.2.2.1 .i64 .i64 _ _ (s.size + 8) rfl rfl rfl rfl ?_ ?_ ?_ ?_))
    · rw [HI.out.2.2.2]; omega
    · unfold maxLen; omega
    · omega
    intro w4 o4 g4
    obtain ⟨L4, hg0⟩ := own_blk o4
    rw [made1 (s.size + 8)] at L4
    have HL4 := hide L4
    have HB4 := hide (below_grownBy g4)
    have hz4 := L4.lt
    generalize hG : w.heap.size = G at *
    have HG := hide hG
    clear o4 g4 L4 hG hg0
    go_wp2_with (refine wpList_copy_str rfl _ _ 57 9 rfl 5 Tryz.underlying57 size_u8 G (s.size + 8) (s.size + 8) s rfl rfl _ 5 HL4.out (by omega) ?_ ?_)
    · rw [List.length_replicate]; omega
    intro w5 hl5 hg5
    have HB5 : Hid (Below G w w5) := HB4.out.trans (below_grownBy_new hg5.out (by omega) (by simp))
    have HL5 : Hid (Blk w5 G ((sbytes s).map (Value.int .u8) ++ (List.replicate 0 (Value.int .u8 77) ++ List.replicate (8 - 0) (Value.int .u8 0))).toArray 5) := by
      have := hl5.out
      simpa [Hid] using this
    clear hl5 hg5 HL4 HB4
    have hsl : ((sbytes s).map (Value.int .u8)).length = s.size := by rw [List.length_map, sbytes_length]
    have HSL := hide hsl
    clear hsl
    go_wp2_with fail
    go_loopw [6] (fun i wr => ∃ k : Nat, i = .int .i64 ((s.size : Int) + (k : Int)) ∧ k ≤ 8 ∧ Blk wr G ((sbytes s).map (Value.int .u8) ++ (List.replicate k (Value.int .u8 77) ++ List.replicate (8 - k) (Value.int .u8 0))).toArray 5 ∧ Below G w wr) (fun i _ => s.size + 8 - (intOf i).toNat)
    case atStart => exact ⟨0, by simp, by omega, HL5.out, HB5.out⟩
    case round =>
      obtain ⟨k, rfl, hk, hbl, hbe⟩ := hrel
      have HBL := hide hbl
      have HBE := hide hbe
      have hzr := hbl.lt
      clear hbl hbe
      by_cases hk8 : k < 8
      · obtain ⟨r, hr⟩ : ∃ r, 8 - k = r + 1 := ⟨8 - k - 1, by omega⟩
        have HBL2 : Hid (Blk wr G (((sbytes s).map (Value.int .u8) ++ List.replicate k (Value.int .u8 77)) ++ List.replicate (r + 1) (Value.int .u8 0)).toArray 5) := by
          have := HBL.out
          rw [hr, ← List.append_assoc] at this
          exact this
        have hlen : ((sbytes s).map (Value.int .u8) ++ List.replicate k (Value.int .u8 77)).length = s.size + k := by rw [List.length_append, HSL.out, List.length_replicate]
        have HLEN := hide hlen
        have HR := hide hr
        have f0 : wr.cell? ⟨G, s.size + k, none⟩ = some (.int .u8 0) := by
          rw [HBL2.out.cell, List.getElem?_toArray, List.getElem?_append_right (by omega), hlen]
          simp
        have f1 := HBL2.out.free (s.size + k)
        have hidx : ((s.size : Int) + (k : Int)).toNat = s.size + k := by omega
        have hi8 : (s.size : Int) + (k : Int) < (s.size : Int) + 8 := by omega
        clear hlen hr
        go_wp2
        go_roundw
        case rel =>
          refine ⟨k + 1, by go_num, by omega, ?_, HBE.out.setCell (by simp) _⟩
          have := HBL2.out.set (s.size + k) (.int .u8 77)
          rw [show 8 - (k + 1) = r from by have := HR.out; omega, List.replicate_succ', ← List.append_assoc, ← List.append_assoc, ← set_next (b := Value.int .u8 0) (r := r) HLEN.out]
          simpa using this
        case measure => simp [intOf]; omega
      · obtain rfl : k = 8 := by omega
        go_wp2
        go_ret
        refine ⟨_, rfl, .inr ⟨G, rfl, by rw [HG.out]; exact Nat.le_refl _, ?_⟩, by rw [HG.out]; exact HBE.out⟩
        simpa [lentRow8] using HBL.out

set_option maxRecDepth 100000 in
set_option maxHeartbeats 1600000 in
theorem back_true (H : Nat) (v : Value) (s : ByteArray) (w : World) (h : LentB w H v s) (hs : s.size ≤ 140737488351232) :
    Calls Tryz.prog 29 #[v, .string s] w fun e w' => e = .returned (.bool true) ∧ Fr (fun b => v.ownBlock = some b) w w' := by
  have hconv := conv_rd8 h.rd
  rw [str_sbytes] at hconv
  rcases h with ⟨rfl, h0⟩ | ⟨g, rfl, hg, hk⟩
  · have hc := toList_nil.2 h0
    clear hconv
    have heq := run_eql_slice_nil (P := Tryz.prog) w 57 5 none 0 0 Tryz.underlying57
    go_enter Tryz.func29, Tryz.ntmps29
    go_wp2
    go_ret
    exact ⟨rfl, Fr.refl _ _⟩
  · have HK := hide hk
    have HLN : Hid ((lentRow8 s).length = s.size + 8) := by simp only [Hid, lentRow8, List.length_append, List.length_map, sbytes_length, List.length_replicate]
    have hgl := hk.lt
    clear hk
    have heq := run_eql_slice_nil (P := Tryz.prog) w 57 5 (some ⟨g, 0, none⟩) s.size (s.size + 8) Tryz.underlying57
    go_enter Tryz.func29, Tryz.ntmps29
    go_wp2_with fail
    go_loopw [5, 7] (fun ok i wr => ∃ k : Nat, ok = .bool true ∧ i = .int .i64 k ∧ k ≤ s.size + 8 ∧ (∃ cu, Blk wr g cu 5 ∧ cu.size = s.size + 8 ∧ ∀ j, k ≤ j → cu[j]? = (lentRow8 s)[j]?) ∧ Fr (fun b => b = g) w wr) (fun _ i _ => s.size + 8 - (intOf i).toNat)
    case atStart => exact ⟨0, by simp, rfl, Nat.zero_le _, ⟨_, HK.out, by simpa using HLN.out, fun j _ => by simp⟩, Fr.refl _ _⟩
    case round =>
      obtain ⟨k, rfl, rfl, hk, ⟨cu, hcu, hcz, hcj⟩, hfr⟩ := hrel
      have HT := hide hcu; have HCZ := hide hcz; have HCJ := hide hcj; have HFR := hide hfr
      have hzr := hcu.lt
      clear hcu hcz hcj hfr
      by_cases hk8 : k < s.size + 8
      · have hk8i : (k : Int) < (s.size : Int) + 8 := by omega
        have f1 := HT.out.free k
        by_cases hkn : k < s.size
        · obtain ⟨y, f0⟩ : ∃ y, wr.cell? ⟨g, k, none⟩ = some y := by rw [HT.out.cell]; exact ⟨_, Array.getElem?_eq_getElem (by rw [HCZ.out]; exact hk8)⟩
          have hkni : (k : Int) < (s.size : Int) := by omega
          go_wp2
          go_roundw
          case rel =>
            refine ⟨k + 1, rfl, by go_num, by omega, ⟨_, HT.out.set k (.int .u8 78), by simp [HCZ.out], fun j hj => ?_⟩, HFR.out.trans (Fr.set (X := fun b => b = g) _ g k _ rfl) (fun _ _ h => h)⟩
            rw [Array.getElem?_setIfInBounds, if_neg (by omega)]
            exact HCJ.out j (by omega)
          case measure => simp [intOf]; omega
        · have f0 : wr.cell? ⟨g, k, none⟩ = some (.int .u8 77) := by
            rw [HT.out.cell, HCJ.out k (Nat.le_refl _), lentRow8, List.getElem?_append_right (by rw [List.length_map, sbytes_length]; omega), List.getElem?_replicate, if_pos (by rw [List.length_map, sbytes_length]; omega)]
          have hkni : ¬ (k : Int) < (s.size : Int) := by omega
          go_wp2
          go_roundw
          case rel =>
            refine ⟨k + 1, rfl, by go_num, by omega, ⟨_, HT.out.set k (.int .u8 78), by simp [HCZ.out], fun j hj => ?_⟩, HFR.out.trans (Fr.set (X := fun b => b = g) _ g k _ rfl) (fun _ _ h => h)⟩
            rw [Array.getElem?_setIfInBounds, if_neg (by omega)]
            exact HCJ.out j (by omega)
          case measure => simp [intOf]; omega
      · have hk8i : ¬ (k : Int) < (s.size : Int) + 8 := by omega
        go_wp2
        go_ret
        exact ⟨rfl, HFR.out.mono (fun b _ hb => by rw [hb]; rfl)⟩

end Go.Proofs.YthloffgebebijaaGreat
