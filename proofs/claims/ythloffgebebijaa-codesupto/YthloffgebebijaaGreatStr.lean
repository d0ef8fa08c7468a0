/- Str: strings as lists of bytes; the walks of tillerlaw's lent and back. -/
import Derived.Test.YthloffgebebijaaGreatBookB
import Derived.Test.YthloffgebebijaaGreatBytesB
import Derived.Test.YthloffgebebijaaGreatRead
import Derived.Test.YthloffgebebijaaGreatLentA
import Derived.Laws.BytesArg
import Derived.Lib.LazyBuf
namespace Go.Proofs.YthloffgebebijaaGreat
open Go.RowKit

def sbytes (s : ByteArray) : List Int := s.data.toList.map fun x => (x.toNat : Int)
theorem sbytes_length (s : ByteArray) : (sbytes s).length = s.size := by
  rw [sbytes, List.length_map, Array.length_toList]
  rfl
theorem sbytes_all (s : ByteArray) : AllB (sbytes s) := by
  intro x hx
  simp only [sbytes, List.mem_map] at hx
  obtain ⟨b, _, rfl⟩ := hx
  have := b.toNat_lt
  omega
theorem str_sbytes (s : ByteArray) : strOfNums (sbytes s) = s := by
  cases s with
  | mk d => simp [strOfNums, sbytes, List.map_map, Function.comp_def]
theorem strOfNums_inj {a b : List Int} (ha : AllB a) (hb : AllB b) (h : strOfNums a = strOfNums b) : a = b := by
  have h1 : (strOfNums a).data.toList = (strOfNums b).data.toList := by rw [h]
  rw [strOfNums_data, strOfNums_data] at h1
  have h2 : ∀ l : List Int, AllB l → (l.map fun n => UInt8.ofNat n.toNat).map (fun x => (x.toNat : Int)) = l := by
    intro l hl
    rw [List.map_map]
    conv => rhs; rw [← List.map_id l]
    apply List.map_congr_left
    intro x hx
    have := hl x hx
    simp only [Function.comp_apply, id]
    rw [show (UInt8.ofNat x.toNat).toNat = x.toNat % 256 from UInt8.toNat_ofNat' ..]
    omega
  rw [← h2 a ha, ← h2 b hb, h1]

theorem conv_rd8 {w : World} {B : Nat} {v : Value} {bs : List Int} (h : Rd8 w B v bs) : (convert 57 9 v).run Tryz.prog w = .ok (.string (strOfNums bs)) w := by
  obtain ⟨a, cap, rfl, hcap, hv⟩ := h
  cases bs with
  | nil =>
    cases a with
    | none => exact run_convert_bytes_nil w 57 5 Tryz.underlying57 Tryz.underlying5 _ _ 9 Tryz.underlying9
    | some a =>
      have := run_convert_bytes_back (P := Tryz.prog) w 57 9 5 a cap [] Tryz.underlying57 Tryz.underlying5 Tryz.underlying9 (by intro j hj; simp at hj)
      exact this
  | cons x r =>
    rcases hv with h0 | ⟨b, o, rfl, hb, hc⟩
    · cases h0
    · refine run_convert_bytes_arg w 57 5 Tryz.underlying57 Tryz.underlying5 b o _ cap (x :: r) rfl (fun i hi => ?_) 9 Tryz.underlying9
      obtain ⟨y, hy⟩ := get_of_lt hi
      rw [hc i y hy]
      simp [List.getD, hy]

theorem run_copy_str {P : Program} (w : World) (dT sT ty elem : TypeId) (g dLen dCap : Nat) (cur : Array Value) (t : TypeId) (s : ByteArray)
    (hu : P.underlying dT = some (.slice elem)) (hz : ∀ w, (Go.sizeOf elem).run P w = .ok 1 w) (hg : w.heap[g]? = some (.cells cur t (0, 0))) (hle : s.size ≤ dLen) (hfit : s.size ≤ cur.size) :
    (Builtin.copy_ #[dT, sT] ty #[.slice (some ⟨g, 0, none⟩) dLen dCap, .string s]).run P w = .ok (goInt s.size) (w.setRow g ((sbytes s).map (Value.int .u8) ++ cur.toList.drop s.size).toArray) := by
  have hmin : Nat.min s.size dLen = s.size := Nat.min_eq_left hle
  have hl : ((sbytes s).map (Value.int .u8)).length = s.size := by rw [List.length_map, sbytes_length]
  have hst := run_storeCells_at P g 0 t ((sbytes s).map (Value.int .u8)) 0 cur w hg (by rw [hl]; simpa using hfit) (ints_oneCell _ _)
  simp only [Nat.zero_add, List.take_zero, List.nil_append, hl] at hst
  have hmm : (sbytes s).map (Value.int .u8) = s.data.toList.map fun x => Value.int .u8 (x.toNat : Int) := by simp [sbytes, List.map_map, Function.comp_def]
  rw [hmm] at hst hl ⊢
  simp [Builtin.copy_, run_underlying hu, Builtin.lenOf, Builtin.firstCells, hz, hmin]
  rw [List.take_of_length_le (by rw [hl]; exact Nat.le_refl _), hst]
  rfl

theorem wpList_copy_str {P : Program} {w : World} {ops : Array Oper} {rest : List Oper} {o : Oper} {a : Act} {Q : Exit → Act → World → Prop} (hgd : o.guard = none) (d x : Operand) (dT sT : TypeId)
    (ho : o.op = .call { callee := .builtin .copy, args := #[d, x], argTypes := #[dT, sT] }) (elem : TypeId) (hu : P.underlying dT = some (.slice elem)) (hz : ∀ w, (Go.sizeOf elem).run P w = .ok 1 w)
    (g dLen dCap : Nat) (s : ByteArray) (hd : a.eval d = .slice (some ⟨g, 0, none⟩) dLen dCap) (hs : a.eval x = .string s)
    (cur : List Value) (t : TypeId) (hg : Blk w g cur.toArray t) (hle : s.size ≤ dLen) (hfit : s.size ≤ cur.length)
    (h : ∀ w', Hid (Blk w' g ((sbytes s).map (Value.int .u8) ++ cur.drop s.size).toArray t) → Hid (w.grownBy w' (some g)) → wpList P ops Q rest (a.put o.dst (goInt s.size)) w') : wpList P ops Q (o :: rest) a w := by
  refine wpList_plain hgd fun K hK => ?_
  have hrun := run_copy_str (P := P) w dT sT o.type elem g dLen dCap cur.toArray t s hu hz hg hle (by simpa using hfit)
  unfold Oper.wp
  simp [execOp, ho, resolve, invoke, builtin, hd, hs, hrun, Result.andThen]
  exact hK _ _ (h _ (setRow_heap w g _ _ t _ hg) ⟨rfl, rfl, rfl, by simp, fun k _ hk => setRow_other w g k _ (fun e => hk (by simp [e]))⟩)

def lentRow8 (s : ByteArray) : List Value := (sbytes s).map (Value.int .u8) ++ List.replicate 8 (.int .u8 77)

/-- Bytes that were lent. -/
def LentB (w : World) (H : Nat) (v : Value) (s : ByteArray) : Prop :=
  (v = .slice none 0 0 ∧ s.size = 0) ∨ ∃ g, v = .slice (some ⟨g, 0, none⟩) s.size (s.size + 8) ∧ H ≤ g ∧ Blk w g (lentRow8 s).toArray 5

theorem LentB.below {w w' : World} {H : Nat} {v : Value} {s : ByteArray} (h : LentB w H v s) (hb : Below w.heap.size w w') : LentB w' H v s :=
  h.imp id fun ⟨g, hv, hg, hk⟩ => ⟨g, hv, hg, hk.later hb hk.lt⟩
theorem LentB.rd {w : World} {H : Nat} {v : Value} {s : ByteArray} (h : LentB w H v s) : Rd8 w w.heap.size v (sbytes s) := by
  rcases h with ⟨rfl, h0⟩ | ⟨g, rfl, hg, hk⟩
  · have : sbytes s = [] := List.eq_nil_of_length_eq_zero (by rw [sbytes_length, h0])
    rw [this]
    exact ⟨none, 0, rfl, Nat.le_refl _, .inl rfl⟩
  · refine ⟨_, _, by rw [sbytes_length], by rw [sbytes_length]; omega, .inr ⟨g, 0, rfl, hk.lt, fun i x hi => ?_⟩⟩
    rw [Nat.zero_add, hk.cell]
    have hlt := lt_of_get hi
    simp only [lentRow8, List.getElem?_toArray]
    rw [List.getElem?_append_left (by simpa using hlt), List.getElem?_map, hi]
    rfl

theorem size_u8 : ∀ w, (Go.sizeOf 5).run Tryz.prog w = .ok 1 w := by
  intro w
  obtain ⟨i0, hi, hz0, hz1, hz2⟩ := info_parts info_u8
  simp [Go.sizeOf, typeInfo, hi, hz1]

theorem made1 (n : Nat) : (madeCells #[.int .u8 0] n).toList = List.replicate n (.int .u8 0) := by
  apply List.ext_getElem?
  intro i
  by_cases h : i < n
  · rw [List.getElem?_replicate, if_pos h]
    simp [madeCells, h, Nat.mod_one]
  · rw [List.getElem?_eq_none (by simp [madeCells]; omega), List.getElem?_eq_none (by simp; omega)]

end Go.Proofs.YthloffgebebijaaGreat
