/- LineE: the walk of a line's Feed. -/
import Derived.Test.YthloffgebebijaaLineD
import Derived.Maps.AppendAt
import Derived.Deep.DeepMust
namespace Go.Proofs.Ythloffgebebijaa
open Go.RowKit

/-- Bytes that are read, outside the blocks of S. -/
def BytV (w : World) (S : Nat → Prop) (v : Value) (bs : List Int) : Prop :=
  ∃ a cap, v = .slice a bs.length cap ∧ bs.length ≤ cap ∧ (bs = [] ∨ ∃ b o, a = some ⟨b, o, none⟩ ∧ b < w.heap.size ∧ ¬ S b ∧ ∀ i x, bs[i]? = some x → w.cell? ⟨b, o + i, none⟩ = some (.int .u8 x))

theorem wpList_appFed {w : World} {ops : Array Oper} {rest : List Oper} {o : Oper} {a : Act} {Q : Exit → Act → World → Prop} (hgd : o.guard = none) (s x : Operand)
    (ho : o.op = .call { callee := .builtin .append, args := #[s, x], argTypes := #[110, 110] })
    (base : Nat) (v : Value) (l : List Fd) (f : Fd) (hs : a.eval s = v) (hown : FedP w base v l) (ad : Addr) (c : Nat) (hx : a.eval x = .slice (some ad) 1 c) (hnews : ∀ j u, (fedCells f)[j]? = some u → w.cell? (ad.add j) = some u) (hlen : l.length ≤ 1000000) (hbase : base ≤ w.heap.size)
    (h : ∀ v' w', FedP w' base v' (l ++ [f]) → w.grownBy w' v.ownBlock → (v'.ownBlock = v.ownBlock ∨ v'.ownBlock = some w.heap.size) → wpList Try.prog ops Q rest (a.put o.dst v') w') :
    wpList Try.prog ops Q (o :: rest) a w := by
  obtain ⟨i0, hi0, hz0, hz1, hz2⟩ := info_parts info_fed
  refine wpList_append_own_at _ hgd s x 110 ho base 132 i0 (.agg #[.int .u8 0, .int .i64 0]) 2 16 Try.underlying110 hi0 hz0 hz1 hz2 rfl (by decide) v l.length (frow l) hs hown ad 1 c (fedCells f) hx rfl hnews ?_ (by unfold maxLen; omega) (by omega) hbase ?_
  · intro u hu
    simp only [fedCells, List.mem_cons, List.not_mem_nil, or_false] at hu
    rcases hu with rfl | rfl <;> rfl
  · intro v' w' o1 g1 _ l1
    refine h v' w' ?_ g1 l1
    unfold FedP
    rw [frow_append, List.length_append]
    have e : frow [f] = fedCells f := by simp [frow]
    rw [e]
    exact o1

def tag (t : Int) (b : Int) : Fd := ⟨b, t⟩
theorem lineFeed_eq (t : Int) : ∀ (bs : List Int) (l : List Fd) (s : Int), l.length ≤ 32 → bs.foldl (lineAdd t) (l, s) = (l ++ (bs.take (32 - l.length)).map (tag t), s + ((bs.length - (32 - l.length) : Nat) : Int))
  | [], l, s, _ => by simp
  | b :: bs, l, s, h => by
    rw [List.foldl_cons]
    by_cases hl : l.length < 32
    · rw [lineAdd, if_pos hl]
      simp only
      rw [lineFeed_eq t bs (l ++ [(⟨b, t⟩ : Fd)]) s (by simp; omega)]
      simp only [List.length_append, List.length_cons, List.length_nil]
      rw [show 32 - l.length = (32 - (l.length + (0 + 1))) + 1 from by omega, List.take_succ_cons, List.map_cons, List.append_assoc]
      congr 2
      omega
    · rw [lineAdd, if_neg hl]
      simp only
      rw [lineFeed_eq t bs l (s + 1) h, show 32 - l.length = 0 from by omega]
      simp only [List.take_zero, List.map_nil, List.append_nil, List.length_cons, Nat.sub_zero]
      congr 1
      omega

set_option maxRecDepth 100000 in
set_option maxHeartbeats 1600000 in
theorem lFeed_any (S : Nat → Prop) (base X o : Nat) (cs : Array Value) (tt : TypeId) (v : Value) (l : List Fd) (t : Int) (bv : Value) (bs : List Int) (w : World) (hB : Blk w X cs tt) (hcs : cs[o]? = some v) (h : FedP w base v l) (hX : v.ownBlock ≠ some X) (hSX : S X) (hSv : ∀ k, v.ownBlock = some k → S k) (hl : l.length ≤ 32) (hbv : BytV w S bv bs) (hbl : bs.length ≤ 140737488355328) (hbase : base ≤ w.heap.size) :
    Calls Try.prog 41 #[.pointer (some ⟨X, o, none⟩), .int .i64 t, bv] w fun e w' => e = .returned (.int .i64 (lineFeed t l bs).2) ∧ ∃ v', Blk w' X (cs.setIfInBounds o v') tt ∧ FedP w' base v' (lineFeed t l bs).1 ∧ Fr (fun k => k = X ∨ v.ownBlock = some k) w w' ∧ (v'.ownBlock = v.ownBlock ∨ ∃ k, v'.ownBlock = some k ∧ w.heap.size ≤ k) := by
  have HLF : Hid (lineFeed t l bs = (l ++ (bs.take (32 - l.length)).map (tag t), ((bs.length - (32 - l.length) : Nat) : Int))) := by
    have := lineFeed_eq t bs l 0 hl
    rw [Int.zero_add] at this
    exact this
  have ho : o < cs.size := by
    rcases Nat.lt_or_ge o cs.size with h' | h'
    · exact h'
    · rw [Array.getElem?_eq_none h'] at hcs; cases hcs
  obtain ⟨a, c, hve⟩ := ownsRow_slice h
  have hXl := hB.lt
  subst hve
  have c0 : w.cell? ⟨X, o, none⟩ = some (.slice a l.length c) := (hB.cell o).trans hcs
  obtain ⟨ba, bc, rfl, hbc, hbb⟩ := hbv
  have HBB := hide hbb
  have HB := hide hB
  have HJ := hide h
  have HS := hide (And.intro hSX hSv)
  clear hbb hB h hSX hSv
  generalize hN : l.length = n at *
  generalize hM : bs.length = q at *
  have HN := hide hN
  have HM := hide hM
  clear hN hM
  have HSET : Hid (Blk w X (cs.setIfInBounds o (.slice a n c)) tt) := by
    have e : cs.setIfInBounds o (.slice a n c) = cs := by
      apply Array.ext_getElem?
      intro i
      rw [Array.getElem?_setIfInBounds]
      split
      · rename_i hi; subst hi; exact hcs.symm
      · rfl
    rw [Hid, e]; exact HB.out
  have HJ0 : Hid (FedP w base (.slice a n c) (l ++ (bs.take 0).map (tag t))) := by simpa [Hid] using HJ.out
  by_cases hle : q ≤ 32 - n
  · have hle2 : (q : Int) ≤ 32 - (n : Int) := by omega
    have hq32 : q ≤ 32 := by omega
    go_enter Try.func41, Try.ntmps41
    go_wp2_with fail
    go_loopw [23] (fun kv wr => ∃ (k : Nat) (v' : Value), kv = .int .i64 k ∧ k ≤ q ∧ Blk wr X (cs.setIfInBounds o v') tt ∧ FedP wr base v' (l ++ (bs.take k).map (tag t)) ∧ Fr (fun k => k = X ∨ (Value.slice a n c).ownBlock = some k) w wr ∧ (v'.ownBlock = (Value.slice a n c).ownBlock ∨ ∃ k, v'.ownBlock = some k ∧ w.heap.size ≤ k)) (fun kv _ => q - (intOf kv).toNat)
    case atStart => exact ⟨0, .slice a n c, rfl, Nat.zero_le _, HSET.out, HJ0.out, Fr.refl _ _, .inl rfl⟩
    case round =>
      obtain ⟨k, v1, rfl, hk, b1, j1, f1, o1⟩ := hrel
      have hsz := f1.size
      have hx1 := b1.lt
      by_cases hlt : k < q
      · have hi : (k : Int) < ((q : Nat) : Int) := by omega
        obtain ⟨x, hx⟩ := get_of_lt (l := bs) (k := k) (by rw [HM.out]; omega)
        rcases HBB.out with he | ⟨b, bo, hba, hb1, hb2, hb3⟩
        · rw [he] at hx; simp at hx
        subst hba
        have hbX : b ≠ X := fun e => hb2 (e ▸ HS.out.1)
        have hbv : ¬ ((Value.slice a n c).ownBlock = some b) := fun e => hb2 (HS.out.2 b e)
        have cb : wr.cell? ⟨b, bo + k, none⟩ = some (.int .u8 x) := (f1.cell (p := ⟨b, bo + k, none⟩) hb1 (by rintro (e | e); exact hbX e; exact hbv e)).trans (hb3 k x hx)
        have hv1X : ∀ q, v1.ownBlock = some q → q ≠ X := by
          rintro q hq rfl
          rcases o1 with e | ⟨z, e, hz⟩
          · exact hX (e.symm.trans hq)
          · rw [e] at hq; cases hq; omega
        have hl1 : (l ++ (bs.take k).map (tag t)).length = n + k := by rw [List.length_append, List.length_map, List.length_take, HN.out, HM.out]; omega
        have HTK : Hid (l ++ (bs.take (k + 1)).map (tag t) = (l ++ (bs.take k).map (tag t)) ++ [⟨x, t⟩]) := by rw [Hid, take_snoc hx, List.map_append, ← List.append_assoc]; rfl
        generalize l ++ (bs.take k).map (tag t) = L1 at *
        obtain ⟨a1, c1, hv1⟩ := ownsRow_slice j1
        rw [hl1] at hv1
        subst hv1
        have d0 : wr.cell? ⟨X, o, none⟩ = some (.slice a1 (n + k) c1) := (b1.cell o).trans (by simp [ho])
        have d0f := b1.free o
        have HB1 := hide b1
        have HJ1 := hide j1
        have HF1 := hide f1
        have HO1 := hide o1
        have HV1 := hide hv1X
        have HL1 := hide hl1
        clear b1 j1 f1 o1 hb3 hx hv1X hl1
        go_wp2_with (at_builtin; go_must (refine wpList_appFed rfl _ _ rfl base _ L1 ⟨x, t⟩ rfl (HJ1.out.later ((Below.refl _ _).alloc (Nat.le_refl _) _)) ⟨wr.heap.size, 0, none⟩ 1 rfl (fresh_cells wr [.int .u8 x, .int .i64 t] 132 _ rfl) (by rw [HL1.out]; omega) (by simp; omega) ?_))
        intro v2 w4 j4 g4 o4
        have b4 : Blk w4 X (cs.setIfInBounds o (.slice a1 (n + k) c1)) tt := (g4.block X (by simp; omega) (fun e => HV1.out X e.symm rfl)).trans (HB1.out.alloc _)
        have e0 : w4.cell? ⟨X, o, none⟩ = some (.slice a1 (n + k) c1) := (b4.cell o).trans (by simp [ho])
        have e0f := b4.free o
        obtain ⟨a2, c2, hv2⟩ := ownsRow_slice j4
        subst hv2
        have HJ4 := hide j4
        have HG4 := hide g4
        have HO4 := hide o4
        have HB4 := hide b4
        clear j4 g4 o4 b4 d0 d0f
        go_wp2
        go_roundw
        case rel =>
          have hz : (wr.alloc (.cells #[.int .u8 x, .int .i64 t] 132)).heap.size = wr.heap.size + 1 := by simp
          have hnew : (Value.slice a2 (L1 ++ [(⟨x, t⟩ : Fd)]).length c2).ownBlock = (Value.slice a n c).ownBlock ∨ ∃ z, (Value.slice a2 (L1 ++ [(⟨x, t⟩ : Fd)]).length c2).ownBlock = some z ∧ w.heap.size ≤ z := by
            rcases HO4.out with e | e
            · rcases HO1.out with e1 | ⟨z, e1, hz1⟩
              · exact .inl (e.trans e1)
              · exact .inr ⟨z, e.trans e1, hz1⟩
            · exact .inr ⟨_, e, by omega⟩
          have hneX : ∀ z, (Value.slice a2 (L1 ++ [(⟨x, t⟩ : Fd)]).length c2).ownBlock = some z → z ≠ X := by
            rintro z hz1 rfl
            rcases hnew with e | ⟨y, e, hy⟩
            · exact hX (e.symm.trans hz1)
            · rw [e] at hz1; cases hz1; omega
          refine ⟨k + 1, .slice a2 (L1 ++ [(⟨x, t⟩ : Fd)]).length c2, by go_num, by omega, ?_, ?_, ?_, hnew⟩
          · have := HB4.out.set o (.slice a2 (L1 ++ [(⟨x, t⟩ : Fd)]).length c2)
            simpa using this
          · rw [HTK.out]
            exact (HJ4.out.same fun z hz1 => heap_setCell_other w4 ⟨X, o, none⟩ z _ (hneX z hz1))
          · have g1 : Fr (fun k => k = X ∨ (Value.slice a n c).ownBlock = some k) w (wr.alloc (.cells #[.int .u8 x, .int .i64 t] 132)) := HF1.out.then_below ((Below.refl _ _).alloc (Nat.le_refl _) _)
            have g2 : Fr (fun k => k = X ∨ (Value.slice a n c).ownBlock = some k) w w4 := g1.trans (Fr.of_grown (X := fun z => (Value.slice a1 (n + k) c1).ownBlock = some z) HG4.out fun z hz1 _ => hz1) fun z hz1 e => by
              rcases HO1.out with e1 | ⟨y, e1, hy⟩
              · exact .inr (e1.symm.trans e)
              · rw [e1] at e; cases e; omega
            exact g2.trans (Fr.set (X := fun k => k = X) w4 X o _ rfl) fun _ _ e => .inl e
        case measure => simp [intOf]; omega
      · have hi : ¬ ((k : Int) < ((q : Nat) : Int)) := by omega
        have HE : Hid (k = q) := by rw [Hid]; omega
        have HEND : Hid (∃ v', Blk wr X (cs.setIfInBounds o v') tt ∧ FedP wr base v' (lineFeed t l bs).1 ∧ Fr (fun k => k = X ∨ (Value.slice a n c).ownBlock = some k) w wr ∧ (v'.ownBlock = (Value.slice a n c).ownBlock ∨ ∃ k, v'.ownBlock = some k ∧ w.heap.size ≤ k)) := by
          refine ⟨v1, b1, ?_, f1, o1⟩
          rw [HLF.out]
          rw [HE.out] at j1
          rw [List.take_of_length_le (by rw [HM.out]; exact Nat.le_refl _)] at j1; rw [List.take_of_length_le (by rw [HM.out]; exact hle)]; exact j1
        clear b1 j1 f1 o1
        go_wp2
        go_ret
        refine ⟨ret_int ?_, HEND.out⟩
        rw [HLF.out]
        simp only
        omega
  · have hle2 : ¬ ((q : Int) ≤ 32 - (n : Int)) := by omega
    have hle3 : (32 - (n : Int)) ≤ (q : Int) := by omega
    have hle4 : (32 - (n : Int)) < (q : Int) := by omega
    go_enter Try.func41, Try.ntmps41
    go_wp2_with fail
    go_loopw [23] (fun kv wr => ∃ (k : Nat) (v' : Value), kv = .int .i64 k ∧ k ≤ (32 - n) ∧ Blk wr X (cs.setIfInBounds o v') tt ∧ FedP wr base v' (l ++ (bs.take k).map (tag t)) ∧ Fr (fun k => k = X ∨ (Value.slice a n c).ownBlock = some k) w wr ∧ (v'.ownBlock = (Value.slice a n c).ownBlock ∨ ∃ k, v'.ownBlock = some k ∧ w.heap.size ≤ k)) (fun kv _ => (32 - n) - (intOf kv).toNat)
    case atStart => exact ⟨0, .slice a n c, rfl, Nat.zero_le _, HSET.out, HJ0.out, Fr.refl _ _, .inl rfl⟩
    case round =>
      obtain ⟨k, v1, rfl, hk, b1, j1, f1, o1⟩ := hrel
      have hsz := f1.size
      have hx1 := b1.lt
      by_cases hlt : k < (32 - n)
      · have hi : (k : Int) < (((32 - n) : Nat) : Int) := by omega
        obtain ⟨x, hx⟩ := get_of_lt (l := bs) (k := k) (by rw [HM.out]; omega)
        rcases HBB.out with he | ⟨b, bo, hba, hb1, hb2, hb3⟩
        · rw [he] at hx; simp at hx
        subst hba
        have hbX : b ≠ X := fun e => hb2 (e ▸ HS.out.1)
        have hbv : ¬ ((Value.slice a n c).ownBlock = some b) := fun e => hb2 (HS.out.2 b e)
        have cb : wr.cell? ⟨b, bo + k, none⟩ = some (.int .u8 x) := (f1.cell (p := ⟨b, bo + k, none⟩) hb1 (by rintro (e | e); exact hbX e; exact hbv e)).trans (hb3 k x hx)
        have hv1X : ∀ q, v1.ownBlock = some q → q ≠ X := by
          rintro q hq rfl
          rcases o1 with e | ⟨z, e, hz⟩
          · exact hX (e.symm.trans hq)
          · rw [e] at hq; cases hq; omega
        have hl1 : (l ++ (bs.take k).map (tag t)).length = n + k := by rw [List.length_append, List.length_map, List.length_take, HN.out, HM.out]; omega
        have HTK : Hid (l ++ (bs.take (k + 1)).map (tag t) = (l ++ (bs.take k).map (tag t)) ++ [⟨x, t⟩]) := by rw [Hid, take_snoc hx, List.map_append, ← List.append_assoc]; rfl
        generalize l ++ (bs.take k).map (tag t) = L1 at *
        obtain ⟨a1, c1, hv1⟩ := ownsRow_slice j1
        rw [hl1] at hv1
        subst hv1
        have d0 : wr.cell? ⟨X, o, none⟩ = some (.slice a1 (n + k) c1) := (b1.cell o).trans (by simp [ho])
        have d0f := b1.free o
        have HB1 := hide b1
        have HJ1 := hide j1
        have HF1 := hide f1
        have HO1 := hide o1
        have HV1 := hide hv1X
        have HL1 := hide hl1
        clear b1 j1 f1 o1 hb3 hx hv1X hl1
        go_wp2_with (at_builtin; go_must (refine wpList_appFed rfl _ _ rfl base _ L1 ⟨x, t⟩ rfl (HJ1.out.later ((Below.refl _ _).alloc (Nat.le_refl _) _)) ⟨wr.heap.size, 0, none⟩ 1 rfl (fresh_cells wr [.int .u8 x, .int .i64 t] 132 _ rfl) (by rw [HL1.out]; omega) (by simp; omega) ?_))
        intro v2 w4 j4 g4 o4
        have b4 : Blk w4 X (cs.setIfInBounds o (.slice a1 (n + k) c1)) tt := (g4.block X (by simp; omega) (fun e => HV1.out X e.symm rfl)).trans (HB1.out.alloc _)
        have e0 : w4.cell? ⟨X, o, none⟩ = some (.slice a1 (n + k) c1) := (b4.cell o).trans (by simp [ho])
        have e0f := b4.free o
        obtain ⟨a2, c2, hv2⟩ := ownsRow_slice j4
        subst hv2
        have HJ4 := hide j4
        have HG4 := hide g4
        have HO4 := hide o4
        have HB4 := hide b4
        clear j4 g4 o4 b4 d0 d0f
        go_wp2
        go_roundw
        case rel =>
          have hz : (wr.alloc (.cells #[.int .u8 x, .int .i64 t] 132)).heap.size = wr.heap.size + 1 := by simp
          have hnew : (Value.slice a2 (L1 ++ [(⟨x, t⟩ : Fd)]).length c2).ownBlock = (Value.slice a n c).ownBlock ∨ ∃ z, (Value.slice a2 (L1 ++ [(⟨x, t⟩ : Fd)]).length c2).ownBlock = some z ∧ w.heap.size ≤ z := by
            rcases HO4.out with e | e
            · rcases HO1.out with e1 | ⟨z, e1, hz1⟩
              · exact .inl (e.trans e1)
              · exact .inr ⟨z, e.trans e1, hz1⟩
            · exact .inr ⟨_, e, by omega⟩
          have hneX : ∀ z, (Value.slice a2 (L1 ++ [(⟨x, t⟩ : Fd)]).length c2).ownBlock = some z → z ≠ X := by
            rintro z hz1 rfl
            rcases hnew with e | ⟨y, e, hy⟩
            · exact hX (e.symm.trans hz1)
            · rw [e] at hz1; cases hz1; omega
          refine ⟨k + 1, .slice a2 (L1 ++ [(⟨x, t⟩ : Fd)]).length c2, by go_num, by omega, ?_, ?_, ?_, hnew⟩
          · have := HB4.out.set o (.slice a2 (L1 ++ [(⟨x, t⟩ : Fd)]).length c2)
            simpa using this
          · rw [HTK.out]
            exact (HJ4.out.same fun z hz1 => heap_setCell_other w4 ⟨X, o, none⟩ z _ (hneX z hz1))
          · have g1 : Fr (fun k => k = X ∨ (Value.slice a n c).ownBlock = some k) w (wr.alloc (.cells #[.int .u8 x, .int .i64 t] 132)) := HF1.out.then_below ((Below.refl _ _).alloc (Nat.le_refl _) _)
            have g2 : Fr (fun k => k = X ∨ (Value.slice a n c).ownBlock = some k) w w4 := g1.trans (Fr.of_grown (X := fun z => (Value.slice a1 (n + k) c1).ownBlock = some z) HG4.out fun z hz1 _ => hz1) fun z hz1 e => by
              rcases HO1.out with e1 | ⟨y, e1, hy⟩
              · exact .inr (e1.symm.trans e)
              · rw [e1] at e; cases e; omega
            exact g2.trans (Fr.set (X := fun k => k = X) w4 X o _ rfl) fun _ _ e => .inl e
        case measure => simp [intOf]; omega
      · have hi : ¬ ((k : Int) < (((32 - n) : Nat) : Int)) := by omega
        have HE : Hid (k = (32 - n)) := by rw [Hid]; omega
        have HEND : Hid (∃ v', Blk wr X (cs.setIfInBounds o v') tt ∧ FedP wr base v' (lineFeed t l bs).1 ∧ Fr (fun k => k = X ∨ (Value.slice a n c).ownBlock = some k) w wr ∧ (v'.ownBlock = (Value.slice a n c).ownBlock ∨ ∃ k, v'.ownBlock = some k ∧ w.heap.size ≤ k)) := by
          refine ⟨v1, b1, ?_, f1, o1⟩
          rw [HLF.out]
          rw [HE.out] at j1
          exact j1
        clear b1 j1 f1 o1
        go_wp2
        go_ret
        refine ⟨ret_int ?_, HEND.out⟩
        rw [HLF.out]
        simp only
        omega

end Go.Proofs.Ythloffgebebijaa
