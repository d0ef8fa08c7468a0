/- LineD: the walk of slices.Delete over a line's bytes, from the front. -/
import Derived.Test.YthloffgebebijaaLineC
import Derived.Deep.RegionLaw
import Derived.Lib.SliceRun
namespace Go.Proofs.Ythloffgebebijaa
open Go.RowKit

/-- A block behind stores into a stretch of it. -/
theorem Blk.setCells {g : Nat} {t : TypeId} : ∀ (vs : List Value) (o : Nat) (w : World) (cur : Array Value), Blk w g cur t → ∃ cur', Blk (w.setCells g o vs) g cur' t ∧ cur'.size = cur.size ∧ ∀ k, k < cur.size → cur'[k]? = if o ≤ k ∧ k < o + vs.length then vs[k - o]? else cur[k]?
  | [], o, w, cur, h => ⟨cur, h, rfl, fun k hk => by rw [if_neg (by simp only [List.length_nil]; omega)]⟩
  | v :: vs, o, w, cur, h => by
    obtain ⟨cur', h1, h2, h3⟩ := Blk.setCells vs (o + 1) (w.setCell ⟨g, o, none⟩ v) _ (h.set o v)
    refine ⟨cur', h1, by rw [h2]; simp, fun k hk => ?_⟩
    rw [h3 k (by simpa using hk)]
    by_cases hko : k = o
    · subst hko
      rw [if_neg (by omega), if_pos (by simp only [List.length_cons]; omega), Nat.sub_self]
      simp [hk]
    · by_cases hin : o + 1 ≤ k ∧ k < o + 1 + vs.length
      · rw [if_pos hin, if_pos (by simp only [List.length_cons]; omega), show k - o = (k - (o + 1)) + 1 from by omega, List.getElem?_cons_succ]
      · rw [if_neg hin, if_neg (by simp only [List.length_cons]; omega), Array.getElem?_setIfInBounds_ne (by omega)]
theorem Fr.setCells {X : Nat → Prop} {g : Nat} (hX : X g) : ∀ (vs : List Value) (o : Nat) {w w' : World}, Fr X w w' → Fr X w (w'.setCells g o vs)
  | [], _, _, _, h => h
  | v :: vs, o, _, w', h => Fr.setCells hX vs (o + 1) (h.trans (Fr.set (X := X) w' g o v hX) fun _ _ x => x)

/-- clear at a slice of elements of any width. -/
theorem run_clear_wide {P : Program} (w : World) (t e ty : TypeId) (z : Value) (ht : P.underlying t = some (.slice e)) (hv : ∀ w, (zeroValue e).run P w = .ok z w) (b o n c : Nat) (hn : 0 < n)
    (h1 : ∀ u ∈ (Builtin.zeroCells z.cells n).toList, u.oneCell' = true)
    (hc : ∀ j, j < (Builtin.zeroCells z.cells n).toList.length → (w.cell? ⟨b, o + j, none⟩).isSome = true) (hf : ∀ j, j < (Builtin.zeroCells z.cells n).toList.length → w.frozen? ⟨b, o + j, none⟩ = false) :
    (Builtin.clear_ #[t] ty #[.slice (some ⟨b, o, none⟩) n c]).run P w = .ok (.tuple #[]) (w.setCells b o (Builtin.zeroCells z.cells n).toList) := by
  have hst := run_storeCells_cells (P := P) b o (Builtin.zeroCells z.cells n).toList 0 w (by simpa using hc) (by simpa using hf) h1
  simp only [Nat.add_zero] at hst
  obtain ⟨m, rfl⟩ : ∃ m, n = m + 1 := ⟨n - 1, by omega⟩
  simp [Builtin.clear_, run_underlying ht, hv, hst]

theorem info_fed : (Try.prog.info? 132).map (fun i => (i.zero, i.size, i.bytes)) = some (some (.agg #[.int .u8 0, .int .i64 0]), 2, 16) := by kernel_rfl
theorem zero_fed (w : World) : (zeroValue 132).run Try.prog w = .ok (.agg #[.int .u8 0, .int .i64 0]) w := by kernel_rfl
theorem zeros_fed (n : Nat) : (Builtin.zeroCells (Value.agg #[.int .u8 0, .int .i64 0]).cells n).toList.length = n * 2 ∧ ∀ u ∈ (Builtin.zeroCells (Value.agg #[.int .u8 0, .int .i64 0]).cells n).toList, u.oneCell' = true := by
  refine ⟨by simp [Builtin.zeroCells, Value.cells], fun u hu => ?_⟩
  simp only [Builtin.zeroCells, Value.cells, Array.toList_map, List.mem_map] at hu
  obtain ⟨i, _, rfl⟩ := hu
  have : i % 2 = 0 ∨ i % 2 = 1 := by omega
  rcases this with h | h <;> simp [h, Value.oneCell']

theorem frow_one (l : List Fd) : ∀ u ∈ frow l, u.oneCell' = true := by
  intro u hu
  simp only [frow, List.mem_flatten, List.mem_map] at hu
  obtain ⟨_, ⟨f, _, rfl⟩, hu⟩ := hu
  simp only [fedCells, List.mem_cons, List.not_mem_nil, or_false] at hu
  rcases hu with rfl | rfl <;> rfl

set_option maxRecDepth 100000 in
set_option maxHeartbeats 1600000 in
theorem delete_any (base : Nat) (v : Value) (l : List Fd) (k : Nat) (w : World) (h : FedP w base v l) (hk : k ≤ l.length) (hlen : l.length ≤ 1000000) :
    Calls Try.prog 84 #[v, .int .i64 0, .int .i64 k] w fun e w' => ∃ v', e = .returned v' ∧ FedP w' base v' (l.drop k) ∧ v'.ownBlock = v.ownBlock ∧ Fr (fun q => v.ownBlock = some q) w w' := by
  by_cases hk0 : k = 0
  · subst hk0
    obtain ⟨a, c, hv⟩ := ownsRow_slice h
    have hlc : l.length ≤ c := by
      rcases h.2 with ⟨h2, h3⟩ | ⟨g', cap', cur, h2, _, _, h3, _⟩
      · omega
      · rw [hv] at h2; simp at h2; omega
    subst hv
    have HJ := hide h
    have h0 : Calls Try.prog 84 #[.slice a l.length c, .int .i64 0, .int .i64 (0 : Nat)] w fun e w' => e = .returned (.slice a l.length c) ∧ w' = w := by
      clear h HJ
      generalize l.length = n at *
      go_enter Try.func84, Try.ntmps84
      go_wp2
      all_goals (go_ret; exact ⟨rfl, rfl⟩)
    refine h0.mono ?_
    rintro e w' ⟨rfl, rfl⟩
    exact ⟨_, rfl, HJ.out, rfl, Fr.refl _ _⟩
  · obtain ⟨g, cap, hv, hc1, hc2⟩ := ownsRow_some h (by omega)
    subst hv
    obtain ⟨cur, hb, hbase, hcs, hct⟩ : ∃ cur, Blk w g cur 132 ∧ base ≤ g ∧ cur.size = cap * 2 ∧ cur.toList.take (l.length * 2) = frow l := by
      rcases h.2 with ⟨h2, h3⟩ | ⟨g', cap', cur, h2, h4, h5, h3, h6, h7, h8⟩
      · omega
      · simp only [Value.slice.injEq, Option.some.injEq, Addr.mk.injEq, true_and, and_true] at h2
        obtain ⟨rfl, rfl⟩ := h2
        exact ⟨cur, h5, h4, h7, h8⟩
    have HJ := hide h
    have HB := hide hb
    generalize hN : l.length = n at *
    obtain ⟨news, hnews⟩ : ∃ news, news = frow (l.drop k) := ⟨_, rfl⟩
    have hnl : news.length = (n - k) * 2 := by rw [hnews, frow_length, List.length_drop, hN]
    obtain ⟨A, hA, hsrc⟩ : ∃ A : Addr, (if cap = k then some (⟨g, 0, none⟩ : Addr) else some ⟨g, k * 2, none⟩) = some A ∧ Hid (∀ j u, news[j]? = some u → w.drew.cell? (A.add j) = some u) := by
      by_cases hck : cap = k
      · refine ⟨⟨g, 0, none⟩, by simp [hck], fun j u hu => ?_⟩
        have := lt_of_get hu
        omega
      · refine ⟨⟨g, k * 2, none⟩, by simp [hck], fun j u hu => ?_⟩
        rw [hnews, ← frow_drop, List.getElem?_drop] at hu
        have := World.ownsRow.cells (g := g) h (by rfl) _ _ hu
        rw [Addr.add_lit] at this ⊢
        simpa using this
    have s1 : Hid (news.length = (n - k) * 2) := hnl
    have s2 : Hid (∀ u ∈ news, u.oneCell' = true) := by rw [hnews]; exact frow_one _
    have s3 : Hid (∀ j, j < news.length → (w.drew.cell? ⟨g, 0 + 0 * 2 + j, none⟩).isSome = true ∧ w.drew.frozen? ⟨g, 0 + 0 * 2 + j, none⟩ = false) := by
      intro j hj
      refine ⟨?_, hb.free _⟩
      show (w.cell? _).isSome = true
      rw [hb.cell, Array.getElem?_eq_getElem (by omega)]
      rfl
    obtain ⟨W1, hW1⟩ : ∃ W1, W1 = w.drew.setCells g (0 + 0 * 2) news := ⟨_, rfl⟩
    obtain ⟨cur1, b1, z1, g1⟩ := Blk.setCells (g := g) (t := 132) news (0 + 0 * 2) w.drew cur hb
    rw [← hW1] at b1
    have f1 : Fr (fun q => (Value.slice (some ⟨g, 0, none⟩) n cap).ownBlock = some q) w W1 := by rw [hW1]; exact Fr.setCells (X := fun q => (Value.slice (some ⟨g, 0, none⟩) n cap).ownBlock = some q) rfl news _ (Fr.refl _ _).drew
    obtain ⟨zl, zo⟩ := zeros_fed (n - (n - k))
    have hcl : ∀ ty, (Builtin.clear_ #[110] ty #[.slice (some ⟨g, (n - k) * 2, none⟩) (n - (n - k)) (cap - (n - k))]).run Try.prog W1 = .ok (.tuple #[]) (W1.setCells g ((n - k) * 2) (Builtin.zeroCells (Value.agg #[.int .u8 0, .int .i64 0]).cells (n - (n - k))).toList) := fun ty =>
      run_clear_wide W1 _ _ ty _ Try.underlying110 zero_fed g ((n - k) * 2) _ _ (by omega) zo (fun j hj => by rw [b1.cell, Array.getElem?_eq_getElem (by omega)]; rfl) (fun j hj => b1.free _)
    obtain ⟨cur2, b2, z2, g2⟩ := Blk.setCells (g := g) (t := 132) (Builtin.zeroCells (Value.agg #[.int .u8 0, .int .i64 0]).cells (n - (n - k))).toList ((n - k) * 2) W1 cur1 b1
    have f2 : Fr (fun q => (Value.slice (some ⟨g, 0, none⟩) n cap).ownBlock = some q) w (W1.setCells g ((n - k) * 2) (Builtin.zeroCells (Value.agg #[.int .u8 0, .int .i64 0]).cells (n - (n - k))).toList) := Fr.setCells (X := fun q => (Value.slice (some ⟨g, 0, none⟩) n cap).ownBlock = some q) rfl _ _ f1
    have HEND : Hid (FedP (W1.setCells g ((n - k) * 2) (Builtin.zeroCells (Value.agg #[.int .u8 0, .int .i64 0]).cells (n - (n - k))).toList) base (.slice (some ⟨g, 0, none⟩) (n - k) cap) (l.drop k)) := by
      unfold Hid FedP
      rw [List.length_drop, hN]
      refine ⟨by rw [frow_length, List.length_drop, hN], .inr ⟨g, cap, cur2, rfl, hbase, b2, by omega, hc2, by omega, ?_⟩⟩
      apply List.ext_getElem?
      intro j
      rw [List.getElem?_take]
      by_cases hj : j < (n - k) * 2
      · rw [if_pos hj, Array.getElem?_toList, g2 j (by omega), if_neg (by omega), g1 j (by omega), if_pos (by omega), hnews]
        simp
      · rw [if_neg hj, List.getElem?_eq_none (by rw [← hnews]; omega)]
    have HW : Hid (W1 = w.drew.setCells g (0 + 0 * 2) news) := hW1
    have HF2 := hide f2
    obtain ⟨i0, hi0, hz0, hz1, hz2⟩ := info_parts info_fed
    have HI := hide (And.intro hi0 hz1)
    have hkc : k ≤ cap := by omega
    have hki : ¬ ((0 : Int) = (k : Int)) := by omega
    have hkb : ((0 : Int) == (k : Int)) = false := by simp; omega
    have hcn : ¬ (cap = n - k) := by omega
    clear hW1 b1 z1 g1 f1 zl zo b2 z2 g2 f2 hnl hnews hb h hi0 hz0 hz1 hz2 hct hcs hN
    go_enter Try.func84, Try.ntmps84
    go_wp2_with fail
    apply wp_once
    case h =>
      go_region_law (first | (refine step_append_room rfl (.tmp 22) (.tmp 25) 110 rfl 132 i0 2 Try.underlying110 HI.out.1 HI.out.2 g 0 0 cap (by simp [Act.eval, Act.put]) A (n - k) (cap - k) news (by simp [Act.eval, Act.put]) s1.out hsrc.out s2.out (by omega) s3.out ?_; rw [← HW.out]))
      all_goals exact ⟨rfl, rfl⟩
    go_wp2
    go_ret
    exact ⟨_, rfl, HEND.out, rfl, HF2.out⟩

end Go.Proofs.Ythloffgebebijaa
