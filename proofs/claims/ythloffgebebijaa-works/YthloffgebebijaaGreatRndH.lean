/- RndH: the walk of package rounds' Start. -/
import Derived.Test.YthloffgebebijaaGreatRndG
import Derived.Test.YthloffgebebijaaGreatValidK
import Derived.OwnWalk
import Derived.Deep.MidRow
namespace Go.Proofs.YthloffgebebijaaGreat
open Go.RowKit

theorem info_line : (Tryz.prog.info? 163).map (fun i => (i.zero, i.size, i.bytes)) = some (some (.agg #[.slice none 0 0]), 1, 24) := by kernel_rfl
theorem info_intH : (Tryz.prog.info? 3).map (fun i => (i.zero, i.size, i.bytes)) = some (some (.int .i64 0), 1, 8) := by kernel_rfl

theorem ownRow_blk {w : World} {base : Nat} {e : TypeId} {size g n : Nat} {xs : List Value} (h : w.ownsRow base e size (.slice (some ⟨g, 0, none⟩) n n) n xs) : Blk w g xs.toArray e := by
  obtain ⟨h1, h2⟩ := h
  rcases h2 with ⟨h2, _⟩ | ⟨g', cap, cur, hv, hg, hh, _, _, hs, ht⟩
  · simp at h2
  · simp at hv
    obtain ⟨rfl, rfl⟩ := hv
    have : cur.toList = xs := by rw [← ht, List.take_of_length_le (by simp [hs])]
    subst this
    exact hh
theorem madeLn (n : Nat) : (madeCells #[.slice none 0 0] n).toList = List.replicate n (.slice none 0 0) := by
  apply List.ext_getElem?
  intro i
  by_cases h : i < n
  · rw [List.getElem?_replicate, if_pos h]
    simp [madeCells, h, Nat.mod_one]
  · rw [List.getElem?_eq_none (by simp [madeCells]; omega), List.getElem?_eq_none (by simp; omega)]
theorem heap_setCells_other (b k : Nat) (hk : k ≠ b) : ∀ (vs : List Value) (o : Nat) (w : World), (w.setCells b o vs).heap[k]? = w.heap[k]?
  | [], _, _ => rfl
  | v :: r, o, w => by
    rw [World.setCells, heap_setCells_other b k hk r]
    exact heap_setCell_other w ⟨b, o, none⟩ k v hk
theorem Below.setCells {B : Nat} {a : World} {b : Nat} (hb : B ≤ b) : ∀ (vs : List Value) (o : Nat) (w : World), Below B a w → Below B a (w.setCells b o vs)
  | [], _, _, h => h
  | v :: r, o, w, h => by
    rw [World.setCells]
    exact Below.setCells hb r (o + 1) _ (h.setCell (by simpa using hb) v)
theorem Blk.range {w : World} {b : Nat} {t : TypeId} {cs : List Value} (h : Blk w b cs.toArray t) : w.rangeAt b 0 cs := fun j v hv => by
  rw [Nat.zero_add, h.cell j]
  simpa using hv
theorem Blk.there {w : World} {b n : Nat} {t : TypeId} {c : Array Value} (h : Blk w b c t) (hn : n ≤ c.size) : w.there b 0 n := fun j hj => by
  refine ⟨?_, h.free _⟩
  rw [h.cell, Array.getElem?_eq_getElem (by omega)]
  rfl
theorem results_cell {fn : Func} {a : Tmp} {t : TypeId} (h : fn.results = #[.cell a t]) {tmps : Array Value} {P : Program} {w : World} {ad : Addr} {v : Value} (h1 : tmps.getD a undef = .pointer (some ad)) (h2 : (loadVar t ad).run P w = .ok v w) : (results fn tmps).run P w = .ok v w := by
  have h3 : (asAddr (tmps.getD a undef)).run P w = .ok ad w := by rw [h1]; rfl
  simp only [results, h]
  simp [h3, h2, -Array.getD_eq_getD_getElem?]
theorem info_state : (Tryz.prog.info? 128).map (·.size) = some 17 := by kernel_rfl

theorem wpList_appInt {w : World} {ops : Array Oper} {rest : List Oper} {o : Oper} {a : Act} {Q : Exit → Act → World → Prop} (hgd : o.guard = none) (s x : Operand)
    (ho : o.op = .call { callee := .builtin .append, args := #[s, x], argTypes := #[24, 24] })
    (base n : Nat) (v : Value) (l : List Value) (d : Int) (hs : a.eval s = v) (hown : w.ownsRow base 3 1 v n l) (ad : Addr) (c : Nat) (hx : a.eval x = .slice (some ad) 1 c) (hnews : ∀ j u, [Value.int .i64 d][j]? = some u → w.cell? (ad.add j) = some u) (hlen : n ≤ 1000000000) (hbase : base ≤ w.heap.size)
    (h : ∀ v' w', w'.ownsRow base 3 1 v' (n + 1) (l ++ [.int .i64 d]) → w.grownBy w' v.ownBlock → (v'.ownBlock = v.ownBlock ∨ v'.ownBlock = some w.heap.size) → wpList Tryz.prog ops Q rest (a.put o.dst v') w') :
    wpList Tryz.prog ops Q (o :: rest) a w := by
  obtain ⟨i0, hi0, hz0, hz1, hz2⟩ := info_parts info_intH
  refine wpList_append_own_at _ hgd s x 24 ho base 3 i0 (.int .i64 0) 1 8 Tryz.underlying24 hi0 hz0 hz1 hz2 rfl (by decide) v n l hs hown ad 1 c [.int .i64 d] hx rfl hnews ?_ (by unfold maxLen; omega) (by omega) hbase ?_
  · intro u hu
    simp only [List.mem_cons, List.not_mem_nil, or_false] at hu
    subst hu; rfl
  · intro v' w' o1 g1 _ l1
    exact h v' w' o1 g1 l1

set_option maxRecDepth 100000 in
set_option maxHeartbeats 3200000 in
theorem start_any (B : Nat) (v : Value) (c : Cfg) (w : World) (hv : Cf w B v c) (hB : B ≤ w.heap.size) (hok : cfgOk c = true) :
    Calls Tryz.prog 67 #[v] w fun e w' => ∃ dv L, e = .returned (.agg #[.int .i64 c.room, .int .i64 c.poll, .int .i64 c.idle, .int .i64 c.sw, dv, .slice (some ⟨L, 0, none⟩) c.lines.toNat c.lines.toNat, .slice none 0 0, .int .i64 0, .int .i64 0, .int .i64 0, .int .i64 0, .int .i64 0, .int .i64 0, .int .i64 0, .int .i64 0, .int .i64 0, .int .i64 0]) ∧ w'.ownsRow w.heap.size 3 1 dv c.tasks.length (dueRow c) ∧ w.heap.size ≤ L ∧ Blk w' L (List.replicate c.lines.toNat (.slice none 0 0)).toArray 163 ∧ Below w.heap.size w w' := by
  obtain ⟨⟨c1, c2⟩, ⟨c3, c4⟩, ⟨c5, c6⟩, ⟨c7, c8⟩, ⟨c9, c10⟩, ⟨c11, c12⟩, c13⟩ := cfgNum hok
  obtain ⟨s, rfl, sa, scap, rfl, hs⟩ := hv
  have HC := hide hs
  obtain ⟨i0, hi, hz0, hzs, hzb⟩ := info_parts info_line
  have HI := hide (And.intro hi (And.intro hz0 (And.intro hzs hzb)))
  obtain ⟨x1, x2, x3, x4, x5, ts⟩ := c
  simp only at *
  obtain ⟨n, rfl⟩ : ∃ n : Nat, x1 = (n : Int) := ⟨x1.toNat, by omega⟩
  simp only [Int.toNat_natCast]
  generalize hN : ts.length = m at *
  have HN := hide hN
  clear hN hs hok c13 hi hz0 hzs hzb
  go_enter Tryz.func67, Tryz.ntmps67
  go_wp2_with (at_make; go_must (refine wpList_make_full _ rfl _ _ 122 rfl w.heap.size 163 i0 _ 1 Tryz.underlying122 HI.out.1 HI.out.2.1 HI.out.2.2.1 .i64 .i64 _ _ n rfl rfl rfl rfl ?_ ?_ ?_ ?_))
  · rw [HI.out.2.2.2]; omega
  · unfold maxLen; omega
  · simp; omega
  intro w4 o4 g4
  have L4 := ownRow_blk o4
  rw [madeLn n] at L4
  have hb3 : Below w.heap.size w (((w.alloc (.cells #[.int .i64 n, .int .i64 x2, .int .i64 x3, .int .i64 x4, .int .i64 x5, .slice sa m scap] 40)).alloc (.cells #[.int .i64 0, .int .i64 0, .int .i64 0, .int .i64 0, .slice none 0 0, .slice none 0 0, .slice none 0 0, .int .i64 0, .int .i64 0, .int .i64 0, .int .i64 0, .int .i64 0, .int .i64 0, .int .i64 0, .int .i64 0, .int .i64 0, .int .i64 0] 128)).alloc (.cells #[.int .i64 x2, .int .i64 x3, .int .i64 x4, .int .i64 x5, .slice none 0 0, .slice none 0 0, .slice none 0 0, .int .i64 0, .int .i64 0, .int .i64 0, .int .i64 0, .int .i64 0, .int .i64 0, .int .i64 0, .int .i64 0, .int .i64 0, .int .i64 0] 128)) := (((Below.refl _ _).alloc (Nat.le_refl _) _).alloc (by simp) _).alloc (by simp; omega) _
  have hg4 : Below (((w.alloc (.cells #[.int .i64 n, .int .i64 x2, .int .i64 x3, .int .i64 x4, .int .i64 x5, .slice sa m scap] 40)).alloc (.cells #[.int .i64 0, .int .i64 0, .int .i64 0, .int .i64 0, .slice none 0 0, .slice none 0 0, .slice none 0 0, .int .i64 0, .int .i64 0, .int .i64 0, .int .i64 0, .int .i64 0, .int .i64 0, .int .i64 0, .int .i64 0, .int .i64 0, .int .i64 0] 128)).alloc (.cells #[.int .i64 x2, .int .i64 x3, .int .i64 x4, .int .i64 x5, .slice none 0 0, .slice none 0 0, .slice none 0 0, .int .i64 0, .int .i64 0, .int .i64 0, .int .i64 0, .int .i64 0, .int .i64 0, .int .i64 0, .int .i64 0, .int .i64 0, .int .i64 0] 128)).heap.size (((w.alloc (.cells #[.int .i64 n, .int .i64 x2, .int .i64 x3, .int .i64 x4, .int .i64 x5, .slice sa m scap] 40)).alloc (.cells #[.int .i64 0, .int .i64 0, .int .i64 0, .int .i64 0, .slice none 0 0, .slice none 0 0, .slice none 0 0, .int .i64 0, .int .i64 0, .int .i64 0, .int .i64 0, .int .i64 0, .int .i64 0, .int .i64 0, .int .i64 0, .int .i64 0, .int .i64 0] 128)).alloc (.cells #[.int .i64 x2, .int .i64 x3, .int .i64 x4, .int .i64 x5, .slice none 0 0, .slice none 0 0, .slice none 0 0, .int .i64 0, .int .i64 0, .int .i64 0, .int .i64 0, .int .i64 0, .int .i64 0, .int .i64 0, .int .i64 0, .int .i64 0, .int .i64 0] 128)) w4 := ⟨g4.os, g4.tape, g4.output, g4.size, fun k hk => g4.block k hk (by simp)⟩
  have hz3 : (((w.alloc (.cells #[.int .i64 n, .int .i64 x2, .int .i64 x3, .int .i64 x4, .int .i64 x5, .slice sa m scap] 40)).alloc (.cells #[.int .i64 0, .int .i64 0, .int .i64 0, .int .i64 0, .slice none 0 0, .slice none 0 0, .slice none 0 0, .int .i64 0, .int .i64 0, .int .i64 0, .int .i64 0, .int .i64 0, .int .i64 0, .int .i64 0, .int .i64 0, .int .i64 0, .int .i64 0] 128)).alloc (.cells #[.int .i64 x2, .int .i64 x3, .int .i64 x4, .int .i64 x5, .slice none 0 0, .slice none 0 0, .slice none 0 0, .int .i64 0, .int .i64 0, .int .i64 0, .int .i64 0, .int .i64 0, .int .i64 0, .int .i64 0, .int .i64 0, .int .i64 0, .int .i64 0] 128)).heap.size = w.heap.size + 3 := by simp
  have HB4 : Hid (Below w.heap.size w w4) := hb3.trans (hg4.mono (by omega))
  have K4 : Blk w4 w.heap.size #[.int .i64 n, .int .i64 x2, .int .i64 x3, .int .i64 x4, .int .i64 x5, .slice sa m scap] 40 := (((Blk.new w #[.int .i64 n, .int .i64 x2, .int .i64 x3, .int .i64 x4, .int .i64 x5, .slice sa m scap] 40).alloc _).alloc _).later hg4 (by omega)
  have R4 : Blk w4 (w.heap.size + 1) #[.int .i64 0, .int .i64 0, .int .i64 0, .int .i64 0, .slice none 0 0, .slice none 0 0, .slice none 0 0, .int .i64 0, .int .i64 0, .int .i64 0, .int .i64 0, .int .i64 0, .int .i64 0, .int .i64 0, .int .i64 0, .int .i64 0, .int .i64 0] 128 := by
    have := ((Blk.new (w.alloc (.cells #[.int .i64 n, .int .i64 x2, .int .i64 x3, .int .i64 x4, .int .i64 x5, .slice sa m scap] 40)) #[.int .i64 0, .int .i64 0, .int .i64 0, .int .i64 0, .slice none 0 0, .slice none 0 0, .slice none 0 0, .int .i64 0, .int .i64 0, .int .i64 0, .int .i64 0, .int .i64 0, .int .i64 0, .int .i64 0, .int .i64 0, .int .i64 0, .int .i64 0] 128).alloc (.cells #[.int .i64 x2, .int .i64 x3, .int .i64 x4, .int .i64 x5, .slice none 0 0, .slice none 0 0, .slice none 0 0, .int .i64 0, .int .i64 0, .int .i64 0, .int .i64 0, .int .i64 0, .int .i64 0, .int .i64 0, .int .i64 0, .int .i64 0, .int .i64 0] 128))
    have h1 := this.later hg4 (by simp)
    simpa using h1
  have S4 : Blk w4 (w.heap.size + 1 + 1) #[.int .i64 x2, .int .i64 x3, .int .i64 x4, .int .i64 x5, .slice none 0 0, .slice none 0 0, .slice none 0 0, .int .i64 0, .int .i64 0, .int .i64 0, .int .i64 0, .int .i64 0, .int .i64 0, .int .i64 0, .int .i64 0, .int .i64 0, .int .i64 0] 128 := by
    have := Blk.new ((w.alloc (.cells #[.int .i64 n, .int .i64 x2, .int .i64 x3, .int .i64 x4, .int .i64 x5, .slice sa m scap] 40)).alloc (.cells #[.int .i64 0, .int .i64 0, .int .i64 0, .int .i64 0, .slice none 0 0, .slice none 0 0, .slice none 0 0, .int .i64 0, .int .i64 0, .int .i64 0, .int .i64 0, .int .i64 0, .int .i64 0, .int .i64 0, .int .i64 0, .int .i64 0, .int .i64 0] 128)) #[.int .i64 x2, .int .i64 x3, .int .i64 x4, .int .i64 x5, .slice none 0 0, .slice none 0 0, .slice none 0 0, .int .i64 0, .int .i64 0, .int .i64 0, .int .i64 0, .int .i64 0, .int .i64 0, .int .i64 0, .int .i64 0, .int .i64 0, .int .i64 0] 128
    have h1 := this.later hg4 (by simp)
    simpa using h1
  have L4' : Blk w4 (w.heap.size + 1 + 1 + 1) (List.replicate n (.slice none 0 0)).toArray 163 := L4
  have hz4 := L4'.lt
  generalize hG3 : w.heap.size + 1 + 1 + 1 = G3 at *
  generalize hG2 : w.heap.size + 1 + 1 = G2 at *
  generalize hG1 : w.heap.size + 1 = G1 at *
  have hg1 : w.heap.size < G1 := by omega
  have hg2 : G1 < G2 := by omega
  have hg3 : G2 < G3 := by omega
  have n20 : G2 ≠ w.heap.size := by omega
  have n21 : G2 ≠ G1 := by omega
  have n02 : w.heap.size ≠ G2 := by omega
  have n12 : G1 ≠ G2 := by omega
  have n32 : G3 ≠ G2 := by omega
  clear hG1 hG2 hG3
  have HL4 := hide L4'; have HK4 := hide K4; have HR4 := hide R4; have HS4 := hide S4
  have k5 : w4.cell? ⟨w.heap.size, 5, none⟩ = some (.slice sa m scap) := K4.cell 5
  have s5 : w4.cell? ⟨G2, 5, none⟩ = some (.slice none 0 0) := S4.cell 5
  have s5f := S4.free 5
  clear o4 g4 L4 L4' K4 R4 S4 hb3 hg4
  go_wp2_with fail
  go_loopw [22] (fun i wr => ∃ (q : Nat) (dv : Value), i = .int .i64 q ∧ q ≤ m ∧ Blk wr (G2) #[.int .i64 x2, .int .i64 x3, .int .i64 x4, .int .i64 x5, dv, .slice (some ⟨G3, 0, none⟩) n n, .slice none 0 0, .int .i64 0, .int .i64 0, .int .i64 0, .int .i64 0, .int .i64 0, .int .i64 0, .int .i64 0, .int .i64 0, .int .i64 0, .int .i64 0] 128 ∧ Blk wr G1 #[.int .i64 0, .int .i64 0, .int .i64 0, .int .i64 0, .slice none 0 0, .slice none 0 0, .slice none 0 0, .int .i64 0, .int .i64 0, .int .i64 0, .int .i64 0, .int .i64 0, .int .i64 0, .int .i64 0, .int .i64 0, .int .i64 0, .int .i64 0] 128 ∧ Blk wr w.heap.size #[.int .i64 n, .int .i64 x2, .int .i64 x3, .int .i64 x4, .int .i64 x5, .slice sa m scap] 40 ∧ Blk wr (G3) (List.replicate n (.slice none 0 0)).toArray 163 ∧ wr.ownsRow w.heap.size 3 1 dv q ((ts.take q).map fun t => .int .i64 t.due) ∧ Below w.heap.size w wr) (fun i _ => m - (intOf i).toNat)
  case atStart =>
    refine ⟨0, .slice none 0 0, rfl, Nat.zero_le _, ?_, HR4.out.other (by simp only; omega) _, HK4.out.other (by simp only; omega) _, HL4.out.other (by simp only; omega) _, World.ownsRow_nil _ _ _ _, HB4.out.setCell (by simp only; omega) _⟩
    have := HS4.out.set 5 (.slice (some ⟨G3, 0, none⟩) n n)
    simpa using this
  case round =>
    obtain ⟨q, dv, rfl, hq, hS, hR, hK, hL, hd, hbe⟩ := hrel
    have hsz := hbe.size
    have hSl := hS.lt
    have hLl := hL.lt
    have hdn : ∀ b cur t, Blk wr b cur t → t ≠ 3 → dv.ownBlock ≠ some b := fun b cur t hb ht => ownsRow_ne_blk hd hb ht
    by_cases hlt : q < m
    · obtain ⟨t, hg⟩ := get_of_lt (l := ts) (k := q) (by rw [HN.out]; exact hlt)
      rcases HC.out with he | ⟨sb, so, rfl, hsb, hsc⟩
      · rw [he] at hg; simp at hg
      obtain ⟨d0, d1, sl, d2, hls⟩ := (hsc q _ hg).later hbe hB (by omega)
      have HTK := hide (take_snoc hg)
      obtain ⟨cost, due, lims⟩ := t
      simp only at d0 d1 hls
      obtain ⟨la, lc, rfl, _⟩ := hls
      have hqi : (q : Int) < (m : Int) := by omega
      have hsbw : sb < wr.heap.size := by omega
      have e4 : wr.cell? ⟨G2, 4, none⟩ = some dv := hS.cell 4
      have e4f := hS.free 4
      have hb1 : Below wr.heap.size wr ((wr.alloc (.cells #[.int .i64 cost, .int .i64 due, .slice la lims.length lc] 55)).alloc (.cells #[.int .i64 due] 3)) := ((Below.refl _ _).alloc (Nat.le_refl _) _).alloc (by simp) _
      have HD1 : Hid (((wr.alloc (.cells #[.int .i64 cost, .int .i64 due, .slice la lims.length lc] 55)).alloc (.cells #[.int .i64 due] 3)).ownsRow w.heap.size 3 1 dv q ((ts.take q).map fun t => .int .i64 t.due)) := ownsRow_same hd fun k hk => hb1.block k (ownsRow_lt hd hk).2
      have HS1 := hide hS; have HR1 := hide hR; have HK1 := hide hK; have HL1 := hide hL; have HBE := hide hbe; have HDN := hide hdn; have HB1 := hide hb1
      clear hS hR hK hL hd hbe hdn hb1
      go_wp2_with (at_builtin; go_must (refine wpList_appInt rfl _ _ rfl w.heap.size q dv _ due rfl HD1.out ⟨wr.heap.size + 1, 0, none⟩ 1 rfl (fresh_cells (wr.alloc (.cells #[.int .i64 cost, .int .i64 due, .slice la lims.length lc] 55)) [.int .i64 due] 3 _ (by simp)) (by omega) (by simp; omega) ?_))
      intro dv2 w2 o2 g2 l2
      obtain ⟨da2, dc2, hdv2⟩ := ownsRow_slice o2
      subst hdv2
      have hz2 := g2.size
      simp at hz2
      have hkp : ∀ b cur t, Blk wr b cur t → t ≠ 3 → Blk w2 b cur t := fun b cur t hb ht => (g2.block b (by have := hb.lt; simp; omega) (fun e => HDN.out b cur t hb ht e.symm)).trans (hb.later HB1.out hb.lt)
      have S2 := hkp _ _ _ HS1.out (by decide)
      have HS2 := hide S2
      have HR2 := hide (hkp _ _ _ HR1.out (by decide))
      have HK2 := hide (hkp _ _ _ HK1.out (by decide))
      have HL2 := hide (hkp _ _ _ HL1.out (by decide))
      have HB2 : Hid (Below w.heap.size w w2) := (HBE.out.trans (HB1.out.mono hsz)).trans (below_grownBy_new g2 (by simp; omega) fun z hz1 => (ownsRow_lt HD1.out hz1).1)
      have HO2 := hide o2
      have y4 : w2.cell? ⟨G2, 4, none⟩ = some dv := S2.cell 4
      have y4f := S2.free 4
      clear o2 g2 l2 S2 hkp HS1 HR1 HK1 HL1 HBE
      go_wp2
      go_roundw
      case rel =>
        have hn2 : ∀ k, (Value.slice da2 (q + 1) dc2).ownBlock = some k → k ≠ G2 := fun k hk e => ownsRow_ne_blk HO2.out HS2.out (by decide) (by rw [hk, e])
        refine ⟨q + 1, .slice da2 (q + 1) dc2, by go_num, by omega, ?_, HR2.out.other (by simp only; omega) _, HK2.out.other (by simp only; omega) _, HL2.out.other (by simp only; omega) _, ownsRow_same (by rw [HTK.out, List.map_append]; have h2 := HO2.out; simp only [← List.map_take] at h2; exact h2) fun k hk => heap_setCell_other w2 ⟨G2, 4, none⟩ k _ (hn2 k hk), HB2.out.setCell (by simp only; omega) _⟩
        have := HS2.out.set 4 (.slice da2 (q + 1) dc2)
        simpa using this
      case measure => simp [intOf]; omega
    · have hqi : ¬ (q : Int) < (m : Int) := by omega
      have hfin : ts.take q = ts := List.take_of_length_le (by rw [HN.out]; omega)
      have hqm : q = m := by omega
      subst hqm
      rw [hfin] at hd
      have HS1 := hide hS; have HR1 := hide hR; have HL1 := hide hL; have HBE := hide hbe; have HD := hide hd
      obtain ⟨da, dc, hdv⟩ := ownsRow_slice hd
      subst hdv
      have HRG := hide (Blk.range (cs := [.int .i64 x2, .int .i64 x3, .int .i64 x4, .int .i64 x5, .slice da q dc, .slice (some ⟨G3, 0, none⟩) n n, .slice none 0 0, .int .i64 0, .int .i64 0, .int .i64 0, .int .i64 0, .int .i64 0, .int .i64 0, .int .i64 0, .int .i64 0, .int .i64 0, .int .i64 0]) hS)
      have HTH := hide (hR.there (n := 17) (by simp))
      have HALL : Hid ((#[.int .i64 x2, .int .i64 x3, .int .i64 x4, .int .i64 x5, .slice da q dc, .slice (some ⟨G3, 0, none⟩) n n, .slice none 0 0, .int .i64 0, .int .i64 0, .int .i64 0, .int .i64 0, .int .i64 0, .int .i64 0, .int .i64 0, .int .i64 0, .int .i64 0, .int .i64 0] : Array Value).all (·.oneCell') = true) := all_oneCell_toArray (cs := [.int .i64 x2, .int .i64 x3, .int .i64 x4, .int .i64 x5, .slice da q dc, .slice (some ⟨G3, 0, none⟩) n n, .slice none 0 0, .int .i64 0, .int .i64 0, .int .i64 0, .int .i64 0, .int .i64 0, .int .i64 0, .int .i64 0, .int .i64 0, .int .i64 0, .int .i64 0]) (by simp [Value.oneCell'])
      clear hS hR hK hL hd hbe hdn
      repeat (first
        | (refine wpList_load_mid (by rfl) 128 (.tmp 3) (by rfl) G2 0 (by rfl) [.int .i64 x2, .int .i64 x3, .int .i64 x4, .int .i64 x5, .slice da q dc, .slice (some ⟨G3, 0, none⟩) n n, .slice none 0 0, .int .i64 0, .int .i64 0, .int .i64 0, .int .i64 0, .int .i64 0, .int .i64 0, .int .i64 0, .int .i64 0, .int .i64 0, .int .i64 0] _ HRG.out Tryz.underlying128 (by rfl) info_state ?_)
        | (refine wpList_store_mid (by rfl) 128 (.tmp 2) (.tmp 34) (by rfl) G1 0 #[.int .i64 x2, .int .i64 x3, .int .i64 x4, .int .i64 x5, .slice da q dc, .slice (some ⟨G3, 0, none⟩) n n, .slice none 0 0, .int .i64 0, .int .i64 0, .int .i64 0, .int .i64 0, .int .i64 0, .int .i64 0, .int .i64 0, .int .i64 0, .int .i64 0, .int .i64 0] (by rfl) (by rfl) HTH.out info_state HALL.out ?_)
        | go_values | go_skip | go_guarded | go_step | go_upon)
      have HST : (wr.setCells G1 0 [.int .i64 x2, .int .i64 x3, .int .i64 x4, .int .i64 x5, .slice da q dc, .slice (some ⟨G3, 0, none⟩) n n, .slice none 0 0, .int .i64 0, .int .i64 0, .int .i64 0, .int .i64 0, .int .i64 0, .int .i64 0, .int .i64 0, .int .i64 0, .int .i64 0, .int .i64 0]).rangeAt G1 0 [.int .i64 x2, .int .i64 x3, .int .i64 x4, .int .i64 x5, .slice da q dc, .slice (some ⟨G3, 0, none⟩) n n, .slice none 0 0, .int .i64 0, .int .i64 0, .int .i64 0, .int .i64 0, .int .i64 0, .int .i64 0, .int .i64 0, .int .i64 0, .int .i64 0, .int .i64 0] := World.rangeAt_setCells_same wr G1 0 _ HTH.out
      have hld := run_loadVar_mid (P := Tryz.prog) (wr.setCells G1 0 [.int .i64 x2, .int .i64 x3, .int .i64 x4, .int .i64 x5, .slice da q dc, .slice (some ⟨G3, 0, none⟩) n n, .slice none 0 0, .int .i64 0, .int .i64 0, .int .i64 0, .int .i64 0, .int .i64 0, .int .i64 0, .int .i64 0, .int .i64 0, .int .i64 0, .int .i64 0]) G1 0 128 [.int .i64 x2, .int .i64 x3, .int .i64 x4, .int .i64 x5, .slice da q dc, .slice (some ⟨G3, 0, none⟩) n n, .slice none 0 0, .int .i64 0, .int .i64 0, .int .i64 0, .int .i64 0, .int .i64 0, .int .i64 0, .int .i64 0, .int .i64 0, .int .i64 0, .int .i64 0] _ HST Tryz.underlying128 (by rfl) info_state
      have hko : ∀ k, k ≠ G1 → (wr.setCells G1 0 [.int .i64 x2, .int .i64 x3, .int .i64 x4, .int .i64 x5, .slice da q dc, .slice (some ⟨G3, 0, none⟩) n n, .slice none 0 0, .int .i64 0, .int .i64 0, .int .i64 0, .int .i64 0, .int .i64 0, .int .i64 0, .int .i64 0, .int .i64 0, .int .i64 0, .int .i64 0]).heap[k]? = wr.heap[k]? := fun k hk => heap_setCells_other G1 k hk _ _ _
      generalize hWF : wr.setCells G1 0 [.int .i64 x2, .int .i64 x3, .int .i64 x4, .int .i64 x5, .slice da q dc, .slice (some ⟨G3, 0, none⟩) n n, .slice none 0 0, .int .i64 0, .int .i64 0, .int .i64 0, .int .i64 0, .int .i64 0, .int .i64 0, .int .i64 0, .int .i64 0, .int .i64 0, .int .i64 0] = WF at *
      refine bodyPost_ret (v := .agg #[.int .i64 x2, .int .i64 x3, .int .i64 x4, .int .i64 x5, .slice da q dc, .slice (some ⟨G3, 0, none⟩) n n, .slice none 0 0, .int .i64 0, .int .i64 0, .int .i64 0, .int .i64 0, .int .i64 0, .int .i64 0, .int .i64 0, .int .i64 0, .int .i64 0, .int .i64 0]) (results_cell Tryz.results67 (by rfl) hld) rfl ⟨.slice da q dc, G3, rfl, ownsRow_same HD.out fun k hk => hko k (fun e => ownsRow_ne_blk HD.out HR1.out (by decide) (by rw [hk, e])), by omega, (hko G3 (by omega)).trans HL1.out, ?_⟩
      rw [← hWF]
      exact Below.setCells (by omega) _ _ _ HBE.out

end Go.Proofs.YthloffgebebijaaGreat
