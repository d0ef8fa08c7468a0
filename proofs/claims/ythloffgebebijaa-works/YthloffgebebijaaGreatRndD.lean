/- RndD: the lines of an executive in memory; the walk of package rounds' read. -/
import Derived.Test.YthloffgebebijaaGreatRndB
import Derived.Test.YthloffgebebijaaGreatPlainA
namespace Go.Proofs.YthloffgebebijaaGreat
open Go.RowKit

/-- The lines of an executive: a row of slices, each with a row of its own. -/
structure LinesP (w : World) (base L : Nat) (vs : List Value) (ls : List (List Fd)) : Prop where
  blk : Blk w L vs.toArray 163
  len : vs.length = ls.length
  row : ∀ (i : Nat) v l, vs[i]? = some v → ls[i]? = some l → FedP w base v l
  apart : ∀ (i j : Nat) v u k, vs[i]? = some v → vs[j]? = some u → v.ownBlock = some k → u.ownBlock = some k → i = j

theorem LinesP.rowAt {w : World} {base L : Nat} {vs : List Value} {ls : List (List Fd)} (h : LinesP w base L vs ls) {v : Value} (hv : v ∈ vs) : ∃ l, FedP w base v l := by
  obtain ⟨i, hi⟩ := List.getElem?_of_mem hv
  obtain ⟨l, hl⟩ := get_of_lt (l := ls) (k := i) (by rw [← h.len]; exact lt_of_get hi)
  exact ⟨l, h.row i v l hi hl⟩
theorem LinesP.same {w w' : World} {base L : Nat} {vs : List Value} {ls : List (List Fd)} (h : LinesP w base L vs ls) (hk : ∀ k, k = L ∨ (∃ v ∈ vs, v.ownBlock = some k) → w'.heap[k]? = w.heap[k]?) : LinesP w' base L vs ls :=
  ⟨(hk L (.inl rfl)).trans h.blk, h.len, fun i v l hi hl => ownsRow_same (h.row i v l hi hl) fun k e => hk k (.inr ⟨v, List.mem_of_getElem? hi, e⟩), h.apart⟩
theorem LinesP.lt {w : World} {base L : Nat} {vs : List Value} {ls : List (List Fd)} (h : LinesP w base L vs ls) {k : Nat} (hk : k = L ∨ ∃ v ∈ vs, v.ownBlock = some k) : k < w.heap.size := by
  rcases hk with rfl | ⟨v, hv, e⟩
  · exact h.blk.lt
  · obtain ⟨l, hl⟩ := h.rowAt hv
    exact (ownsRow_lt hl e).2
theorem LinesP.later {w w' : World} {base L : Nat} {vs : List Value} {ls : List (List Fd)} (h : LinesP w base L vs ls) (hb : Below w.heap.size w w') : LinesP w' base L vs ls :=
  h.same fun k hk => hb.block k (h.lt hk)
/-- A block of another type is none of the lines'. -/
theorem LinesP.off {w : World} {base L : Nat} {vs : List Value} {ls : List (List Fd)} (h : LinesP w base L vs ls) {k : Nat} {cur : Array Value} {t : TypeId} (hb : Blk w k cur t) (h1 : t ≠ 163) (h2 : t ≠ 184) : ¬ (k = L ∨ ∃ v ∈ vs, v.ownBlock = some k) := by
  rintro (rfl | ⟨v, hv, e⟩)
  · exact h1 (Blk.inj hb h.blk).2
  · obtain ⟨l, hl⟩ := h.rowAt hv
    exact ownsRow_ne_blk hl hb h2 e
theorem LinesP.offRow {w : World} {base L : Nat} {vs : List Value} {ls : List (List Fd)} (h : LinesP w base L vs ls) {b n size : Nat} {e : TypeId} {u : Value} {xs : List Value} (hu : w.ownsRow b e size u n xs) (h1 : e ≠ 163) (h2 : e ≠ 184) {k : Nat} (hk : u.ownBlock = some k) : ¬ (k = L ∨ ∃ v ∈ vs, v.ownBlock = some k) := by
  obtain ⟨cur, hb⟩ := ownsRow_blk hu hk
  exact h.off hb h1 h2
/-- One line turns. -/
theorem LinesP.set {w w' : World} {base L i : Nat} {vs : List Value} {ls : List (List Fd)} {v v' : Value} {l' : List Fd} (h : LinesP w base L vs ls) (hi : vs[i]? = some v) (hb : Blk w' L (vs.toArray.setIfInBounds i v') 163) (hr : FedP w' base v' l') (hf : Fr (fun k => k = L ∨ v.ownBlock = some k) w w') (ho : v'.ownBlock = v.ownBlock ∨ ∃ k, v'.ownBlock = some k ∧ w.heap.size ≤ k) : LinesP w' base L (vs.set i v') (ls.set i l') := by
  have hil := lt_of_get hi
  refine ⟨?_, by simp [h.len], ?_, ?_⟩
  · rw [List.setIfInBounds_toArray] at hb
    exact hb
  · intro j u l hj hl
    rw [List.getElem?_set] at hj hl
    by_cases hij : i = j
    · subst hij
      rw [if_pos rfl, if_pos hil] at hj
      rw [if_pos rfl, if_pos (by rw [← h.len]; exact hil)] at hl
      cases hj; cases hl
      exact hr
    · rw [if_neg hij] at hj hl
      have hu := h.row j u l hj hl
      refine ownsRow_same hu fun k hk => hf.block k (ownsRow_lt hu hk).2 ?_
      rintro (rfl | e)
      · exact ownsRow_ne_blk hu h.blk (by decide) hk
      · exact hij (h.apart i j v u k hi hj e hk)
  · intro j1 j2 u1 u2 k h1 h2 e1 e2
    have hlt : ∀ (j : Nat) u, vs[j]? = some u → u.ownBlock = some k → k < w.heap.size := fun j u hj e => h.lt (.inr ⟨u, List.mem_of_getElem? hj, e⟩)
    rw [List.getElem?_set] at h1 h2
    by_cases hj1 : i = j1
    · by_cases hj2 : i = j2
      · omega
      · rw [if_pos hj1, if_pos (by omega)] at h1
        rw [if_neg hj2] at h2
        cases h1
        have := hlt j2 u2 h2 e2
        rcases ho with o | ⟨z, o, hz⟩
        · exact absurd (h.apart i j2 v u2 k hi h2 (o ▸ e1) e2) hj2
        · rw [o] at e1; cases e1; omega
    · by_cases hj2 : i = j2
      · rw [if_neg hj1] at h1
        rw [if_pos hj2, if_pos (by omega)] at h2
        cases h2
        have := hlt j1 u1 h1 e1
        rcases ho with o | ⟨z, o, hz⟩
        · exact absurd (h.apart i j1 v u1 k hi h1 (o ▸ e2) e1) hj1
        · rw [o] at e2; cases e2; omega
      · rw [if_neg hj1] at h1
        rw [if_neg hj2] at h2
        exact h.apart j1 j2 u1 u2 k h1 h2 e1 e2

theorem RdIn.ctIn {c : Cfg} {M : Int} {r : Rdg} (h : RdIn c M r) (hM : M ≤ 1000000000000000) : CtIn r.ct := by
  have h1 := h.dn; have h2 := h.d0; have h3 := h.l0; have h4 := h.u0; have h5 := h.b0; have h6 := h.tot
  exact ⟨by omega, by omega, h3, by omega, h4, by omega, h5, by omega, h2, by omega⟩

theorem Fr.undrew {X : Nat → Prop} {w w' : World} (h : Fr X w.drew w') : Fr X w w' := ⟨h.os, h.tape, h.output, h.size, h.block⟩
theorem MsgP.cell {w : World} {base g cap n : Nat} {ms : List Mg} (h : MsgP w base (.slice (some ⟨g, 0, none⟩) n cap) ms) {i : Nat} {m : Mg} (hi : ms[i]? = some m) :
    w.cell? ⟨g, i * 3, none⟩ = some (.int .i64 m.task) ∧ w.cell? ⟨g, i * 3 + 1, none⟩ = some (.int .i64 m.cost) ∧ w.cell? ⟨g, i * 3 + 2, none⟩ = some (.int .i64 m.tick) := by
  have h3 : ∀ c ∈ ms.map mgCells, c.length = 3 := by
    intro c hc
    obtain ⟨j, _, rfl⟩ := List.mem_map.1 hc
    rfl
  have hg : ∀ k, k < 3 → (mrow ms)[i * 3 + k]? = (mgCells m)[k]? := fun k hk => by
    rw [mrow, flatten_get h3 i k hk, List.getElem?_map, hi]
    rfl
  have hc : ∀ k u, (mrow ms)[k]? = some u → w.cell? ⟨g, k, none⟩ = some u := fun k u hu => by
    have := World.ownsRow.cells (g := g) h (by rfl) k u hu
    rw [Addr.add] at this
    split at this
    · rename_i h0; subst h0; exact this
    · simpa using this
  exact ⟨hc _ _ (by have := hg 0 (by decide); simpa [mgCells] using this), hc _ _ (by have := hg 1 (by decide); simpa [mgCells] using this), hc _ _ (by have := hg 2 (by decide); simpa [mgCells] using this)⟩

/-- The blocks that a reading may turn. -/
def rdSet (X L : Nat) (qv ev : Value) (vs : List Value) (k : Nat) : Prop := k = X ∨ k = L ∨ qv.ownBlock = some k ∨ ev.ownBlock = some k ∨ ∃ v ∈ vs, v.ownBlock = some k
/-- Those of the executive are in S or new, that of the events is in E or new. -/
structure RdOk (S E : Nat → Prop) (H X L : Nat) (qv ev : Value) (vs : List Value) : Prop where
  x : S X ∨ H ≤ X
  l : S L ∨ H ≤ L
  q : ∀ k, qv.ownBlock = some k → S k ∨ H ≤ k
  e : ∀ k, ev.ownBlock = some k → E k ∨ H ≤ k
  v : ∀ k v, v ∈ vs → v.ownBlock = some k → S k ∨ H ≤ k
theorem RdOk.set {S E : Nat → Prop} {H X L : Nat} {qv ev : Value} {vs : List Value} (h : RdOk S E H X L qv ev vs) (k : Nat) (hk : rdSet X L qv ev vs k) : (S k ∨ E k) ∨ H ≤ k := by
  rcases hk with rfl | rfl | e | e | ⟨u, hu, e⟩
  · exact h.x.imp .inl id
  · exact h.l.imp .inl id
  · exact (h.q k e).imp .inl id
  · exact (h.e k e).imp .inr id
  · exact (h.v k u hu e).imp .inl id

set_option maxRecDepth 100000 in
set_option maxHeartbeats 3200000 in
theorem read_any (S E : Nat → Prop) (base eb X L : Nat) (mu : Int) (dv qv ev : Value) (vs : List Value) (hs : List Jb) (c : Cfg) (fed t F M : Int) (ls : List (List Fd)) (r : Rdg) (w : World)
    (h : CoreP w base X mu dv (.slice (some ⟨L, 0, none⟩) ls.length ls.length) qv hs c fed t r.ct) (hp : hs.Perm r.jobs) (hL : LinesP w base L vs ls) (he : EvP w eb ev r.out) (hS : RdOk S E w.heap.size X L qv ev vs)
    (hbase : base ≤ w.heap.size) (heb : eb ≤ w.heap.size) (hcf : cfgOk c = true) (hr : RdIn c M r) (hM0 : M ≤ 900000000000000) (hln : ∀ l ∈ ls, LnIn F l) (hls : ls.length ≤ 4) (hck : 0 ≤ t ∧ t ≤ 1000000) (hol : r.out.length ≤ 800000000) :
    Calls Tryz.prog 110 #[.pointer (some ⟨X, 2, none⟩), ev] w fun e w' => ∃ qv' hs' ev', e = .returned ev' ∧ CoreP w' base X mu dv (.slice (some ⟨L, 0, none⟩) ls.length ls.length) qv' hs' c fed t (exLines c t ls r).2.ct ∧ hs'.Perm (exLines c t ls r).2.jobs ∧ ∃ vs', LinesP w' base L vs' (exLines c t ls r).1 ∧ EvP w' eb ev' (exLines c t ls r).2.out ∧ Fr (fun k => S k ∨ E k) w w' ∧ RdOk S E w.heap.size X L qv' ev' vs' := by
  have hX := h.q.blk.lt
  have HC := hide h
  have HP := hide hp
  have HL := hide hL
  have HE := hide he
  have HS := hide hS
  have HR := hide hr
  have HLN := hide hln
  have HCF := hide hcf
  have c7 : w.cell? ⟨X, 7, none⟩ = some (.slice (some ⟨L, 0, none⟩) ls.length ls.length) := h.q.blk.cell 7
  generalize hN : ls.length = n at *
  have HN := hide hN
  clear h hp hL he hS hr hln hcf hN
  go_enter Tryz.func110, Tryz.ntmps110
  go_wp2_with fail
  go_loopw [1, 15] (fun evv iv wr => ∃ (i : Nat) (qv' : Value) (hs' : List Jb) (vs' : List Value), iv = .int .i64 i ∧ i ≤ n ∧ CoreP wr base X mu dv (.slice (some ⟨L, 0, none⟩) n n) qv' hs' c fed t (exLines c t (ls.take i) r).2.ct ∧ hs'.Perm (exLines c t (ls.take i) r).2.jobs ∧ LinesP wr base L vs' ((exLines c t (ls.take i) r).1 ++ ls.drop i) ∧ EvP wr eb evv (exLines c t (ls.take i) r).2.out ∧ Fr (fun k => S k ∨ E k) w wr ∧ RdOk S E w.heap.size X L qv' evv vs') (fun _ iv _ => n - (intOf iv).toNat)
  case atStart => exact ⟨0, qv, hs, vs, rfl, Nat.zero_le _, HC.out, HP.out, HL.out, HE.out, Fr.refl _ _, HS.out⟩
  case round =>
    obtain ⟨i, qv1, hs1, vs1, rfl, hin, hk1, hp1, hl1, he1, hf1, ho1⟩ := hrel
    have hz1 := hf1.size
    obtain ⟨hpl, hpn, hrd1, -, -, hol1⟩ := exLines_in (t := t) (ls.take i) (fun x hx => HLN.out x (List.mem_of_mem_take hx)) HR.out
    have hti : (ls.take i).length = i := by rw [List.length_take, HN.out]; omega
    have hh1 : held (ls.take i) ≤ 128 := by
      have : ∀ q : List (List Fd), (∀ l ∈ q, l.length ≤ 32) → held q ≤ 32 * q.length := by
        intro q
        induction q with
        | nil => intro _; simp [held]
        | cons a b ih => intro hq; have := hq a (by simp); have := ih (fun l hl => hq l (by simp [hl])); rw [held_cons]; simp; omega
      have := this (ls.take i) (fun l hl => (HLN.out l (List.mem_of_mem_take hl)).len)
      omega
    have hh2 := held_nonneg (exLines c t (ls.take i) r).1
    rw [hti] at hpl hol1
    generalize hPP : exLines c t (ls.take i) r = P at *
    have HPP := hide hPP
    clear hPP
    by_cases hlt : i < n
    · have hii : (i : Int) < (n : Int) := by omega
      obtain ⟨l, hl⟩ := get_of_lt (l := ls) (k := i) (by rw [HN.out]; exact hlt)
      have hlv : vs1.length = n := by rw [hl1.len, List.length_append, hpl, List.length_drop, HN.out]; omega
      obtain ⟨v, hv⟩ := get_of_lt (l := vs1) (k := i) (by omega)
      have hli : (P.1 ++ ls.drop i)[i]? = some l := by rw [List.getElem?_append_right (by omega), hpl, Nat.sub_self, List.getElem?_drop]; simpa using hl
      have hLn := HLN.out l (List.mem_of_getElem? hl)
      have c7 : wr.cell? ⟨X, 7, none⟩ = some (.slice (some ⟨L, 0, none⟩) n n) := hk1.q.blk.cell 7
      have c10 : wr.cell? ⟨X, 10, none⟩ = some (.int .i64 t) := hk1.q.blk.cell 10
      have hXr := hk1.q.blk.lt
      have hLr := hl1.blk.lt
      have HREAD := hide (lRead_any base L i vs1.toArray 163 v l t wr.drew (show Blk wr.drew L vs1.toArray 163 from hl1.blk) (by simpa using hv) (hl1.row i v l hv hli) (ownsRow_ne_blk (hl1.row i v l hv hli) hl1.blk (by decide)) hLn.len (fun f hf => (hLn.fd f hf).1) (by simp; omega))
      have HK1 := hide hk1
      have HP1 := hide hp1
      have HL1 := hide hl1
      have HE1 := hide he1
      have HF1 := hide hf1
      have HO1 := hide ho1
      have HRD1 := hide hrd1
      have HV := hide hv
      have HLI := hide hl
      clear hk1 hp1 hl1 he1 hf1 ho1 hrd1 hv hl hli hpn
      go_wp2_with fail
      apply wp_some3 (fun (mv v' : Value) (w3 : World) => MsgP w3 wr.drew.heap.size mv (lnR (l.take (fedBy t l))).1 ∧ Blk w3 L (vs1.toArray.setIfInBounds i v') 163 ∧ FedP w3 base v' (l.drop (fedBy t l - (lnR (l.take (fedBy t l))).2.2.length)) ∧ Fr (fun k => k = L ∨ v.ownBlock = some k) wr.drew w3 ∧ v'.ownBlock = v.ownBlock)
      case h =>
        go_region_with (first
          | (go_at_call 123; refine HREAD.out.mono ?_; rintro e w3 ⟨mv, v', rfl, hq⟩; have HQ3 := hide hq; clear hq))
        all_goals exact ⟨mv, v', w3, HQ3.out, rfl, rfl⟩
      rintro mv v' w3 ⟨m3, b3, j3, f3, o3⟩
      have HEL : Hid (exLine c t l P.2 = (l.drop (fedBy t l - (lnR (l.take (fedBy t l))).2.2.length), (lnR (l.take (fedBy t l))).1.foldl (exTake c t) (addBad P.2 (lnR (l.take (fedBy t l))).2.1))) := by
        have hfu : lnRead l.length (l.take (fedBy t l)) = lnR (l.take (fedBy t l)) := lnRead_fuel _ _ _ (by rw [List.length_take]; omega) (Nat.le_refl _)
        rw [Hid, exLine_two c t l P.2 hLn.tk, hfu, foldTake_bad]
      have HMI : Hid (∀ m ∈ (lnR (l.take (fedBy t l))).1, MgIn m) := lnRead_in _ _ (fun x hx => (hLn.fd x (List.mem_of_mem_take hx)).1)
      have hsum : 4 * (lnR (l.take (fedBy t l))).1.length + (lnR (l.take (fedBy t l))).2.1 ≤ 32 := by
        obtain ⟨k, -, hk, hs⟩ := lnRead_drop (l.take (fedBy t l)).length (l.take (fedBy t l))
        have := hLn.len
        have h2 : (l.take (fedBy t l)).length ≤ l.length := by rw [List.length_take]; omega
        have hs : 4 * (lnR (l.take (fedBy t l))).1.length + (lnR (l.take (fedBy t l))).2.1 = k := hs
        omega
      generalize lnR (l.take (fedBy t l)) = R at *
      obtain ⟨ms, bd, rest⟩ := R
      simp only at m3 j3 HEL HMI hsum ⊢
      generalize hl' : l.drop (fedBy t l - rest.length) = l' at *
      clear hl' HREAD
      have hvX : ¬ (X = L ∨ v.ownBlock = some X) := by
        have := HL1.out.off HK1.out.q.blk (by decide) (by decide)
        rintro (e | e)
        · exact this (.inl e)
        · exact this (.inr ⟨v, List.mem_of_getElem? HV.out, e⟩)
      have hoff : ∀ {b n size : Nat} {e : TypeId} {u : Value} {xs : List Value}, wr.ownsRow b e size u n xs → e ≠ 163 → e ≠ 184 → ∀ k, u.ownBlock = some k → ¬ (k = L ∨ v.ownBlock = some k) := by
        intro b n size e u xs hu h1 h2 k hk hh
        refine HL1.out.offRow hu h1 h2 hk (hh.imp id fun e => ⟨v, List.mem_of_getElem? HV.out, e⟩)
      have hK3 : CoreP w3 base X mu dv (.slice (some ⟨L, 0, none⟩) n n) qv1 hs1 c fed t P.2.ct := HK1.out.same fun k hk => (f3.block k (by
          rcases hk with rfl | e | e
          · exact HK1.out.q.blk.lt
          · exact (ownsRow_lt HK1.out.q.row e).2
          · exact (ownsRow_lt HK1.out.d e).2) (by
          rcases hk with rfl | e | e
          · exact hvX
          · exact hoff HK1.out.q.row (by decide) (by decide) k e
          · exact hoff HK1.out.d (by decide) (by decide) k e))
      have hE3 : EvP w3 eb u1 P.2.out := HE1.out.same fun k hk => f3.block k (ownsRow_lt HE1.out hk).2 (hoff HE1.out (by decide) (by decide) k hk)
      have hL3 : LinesP w3 base L (vs1.set i v') ((P.1 ++ ls.drop i).set i l') := LinesP.set HL1.out HV.out b3 j3 f3.undrew (.inl o3)
      have hF3 : Fr (fun k => S k ∨ E k) w w3 := HF1.out.drew.trans f3 fun k hk hh => by
        rcases HO1.out.set k (hh.elim (fun e => .inr (.inl e)) fun e => .inr (.inr (.inr (.inr ⟨v, List.mem_of_getElem? HV.out, e⟩)))) with h | h
        · exact h
        · omega
      have hO3 : RdOk S E w.heap.size X L qv1 u1 (vs1.set i v') := ⟨HO1.out.x, HO1.out.l, HO1.out.q, HO1.out.e, fun k u hu e => by
        rcases List.mem_or_eq_of_mem_set hu with hu | rfl
        · exact HO1.out.v k u hu e
        · exact HO1.out.v k v (List.mem_of_getElem? HV.out) (o3 ▸ e)⟩
      have hz3 := f3.size
      have hzz : wr.drew.heap.size = wr.heap.size := rfl
      rw [hzz] at m3 hz3
      obtain ⟨ma, mc, hmv⟩ := ownsRow_slice m3
      subst hmv
      have c16 : w3.cell? ⟨X, 16, none⟩ = some (.int .i64 P.2.ct.bad) := hK3.q.blk.cell 16
      have z16 := hK3.q.blk.free 16
      have hbb := (HRD1.out.ctIn (by omega)).b1
      have hbb0 := HRD1.out.b0
      have hbd : bd ≤ 32 := by omega
      have hK4 : CoreP (w3.setCell ⟨X, 16, none⟩ (.int .i64 (P.2.ct.bad + bd))) base X mu dv (.slice (some ⟨L, 0, none⟩) n n) qv1 hs1 c fed t (addBad P.2 bd).ct := hK3.count 16 _ rfl
      have hE4 : EvP (w3.setCell ⟨X, 16, none⟩ (.int .i64 (P.2.ct.bad + bd))) eb u1 P.2.out := hE3.same fun k hk => heap_setCell_other _ ⟨X, 16, none⟩ k _ (fun e => ownsRow_ne_blk hE3 hK3.q.blk (by decide) (by rw [hk, e]))
      have hL4 : LinesP (w3.setCell ⟨X, 16, none⟩ (.int .i64 (P.2.ct.bad + bd))) base L (vs1.set i v') ((P.1 ++ ls.drop i).set i l') := hL3.same fun k hk => heap_setCell_other _ ⟨X, 16, none⟩ k _ (fun e => hL3.off hK3.q.blk (by decide) (by decide) (show X = L ∨ _ by simp only at e; subst e; exact hk))
      have hM4 : MsgP (w3.setCell ⟨X, 16, none⟩ (.int .i64 (P.2.ct.bad + bd))) wr.heap.size (.slice ma ms.length mc) ms := ownsRow_same m3 fun k hk => heap_setCell_other _ ⟨X, 16, none⟩ k _ (fun e => ownsRow_ne_blk m3 hK3.q.blk (by decide) (by rw [hk, e]))
      have hF4 : Fr (fun k => S k ∨ E k) w (w3.setCell ⟨X, 16, none⟩ (.int .i64 (P.2.ct.bad + bd))) := hF3.trans (Fr.set (X := fun k => k = X) _ X 16 _ rfl) fun k hk e => by
        rcases HO1.out.set k (.inl e) with h | h
        · exact h
        · omega
      have HK4 := hide hK4
      have HE4 := hide hE4
      have HL4 := hide hL4
      have HM4 := hide hM4
      have HF4 := hide hF4
      have HO4 := hide hO3
      clear hK3 hE3 hL3 hF3 hO3 hK4 hE4 hL4 hM4 hF4 m3 b3 j3 f3 hoff hvX
      have HBR := hide (addBad_in (n := (bd : Int)) HRD1.out (by omega))
      have holP : (addBad P.2 bd).out.length ≤ r.out.length + 8 * i := hol1
      have hpj : (addBad P.2 (bd : Int)).jobs = P.2.jobs := rfl
      have hpo : (addBad P.2 (bd : Int)).out = P.2.out := rfl
      have HP4 : Hid (hs1.Perm (addBad P.2 (bd : Int)).jobs) := HP1.out
      have HE5 : Hid (EvP (w3.setCell ⟨X, 16, none⟩ (.int .i64 (P.2.ct.bad + bd))) eb u1 (addBad P.2 (bd : Int)).out) := HE4.out
      generalize addBad P.2 (bd : Int) = R0 at *
      go_wp2_with fail
      obtain ⟨W0, hW0⟩ : ∃ W, W = wr := ⟨_, rfl⟩
      subst hW0
      generalize w3.setCell ⟨X, 16, none⟩ (.int .i64 (P.2.ct.bad + bd)) = W4 at *
      have hzF := HF4.out.size
      have hXW := HK4.out.q.blk.lt
      go_loopw [1, 45] (fun evv iv wr => ∃ (q : Nat) (qv' : Value) (hs' : List Jb), iv = .int .i64 q ∧ q ≤ ms.length ∧ CoreP wr base X mu dv (.slice (some ⟨L, 0, none⟩) n n) qv' hs' c fed t ((ms.take q).foldl (exTake c t) R0).ct ∧ hs'.Perm ((ms.take q).foldl (exTake c t) R0).jobs ∧ LinesP wr base L (vs1.set i v') ((P.1 ++ ls.drop i).set i l') ∧ MsgP wr W0.heap.size (.slice ma ms.length mc) ms ∧ EvP wr eb evv ((ms.take q).foldl (exTake c t) R0).out ∧ Fr (fun k => S k ∨ E k) w wr ∧ RdOk S E w.heap.size X L qv' evv (vs1.set i v')) (fun _ iv _ => ms.length - (intOf iv).toNat)
      case atStart => exact ⟨0, qv1, hs1, rfl, Nat.zero_le _, HK4.out, HP4.out, HL4.out, HM4.out, HE5.out, HF4.out, HO4.out⟩
      case round =>
        obtain ⟨q, qv2, hs2, rfl, hq, k2, p2, l2, m2, e2, f2, o2⟩ := hrel
        have hz2 := f2.size
        by_cases hqm : q < ms.length
        · have hqi : (q : Int) < (ms.length : Int) := by omega
          obtain ⟨mg, hmg⟩ := get_of_lt hqm
          have hMi := HMI.out mg (List.mem_of_getElem? hmg)
          have hrd := foldTake_in (t := t) (ms.take q) HBR.out (fun x hx => HMI.out x (List.mem_of_mem_take hx))
          have hkp := (foldTake_keep c t (ms.take q) R0).2.2
          have htl : (ms.take q).length = q := by rw [List.length_take]; omega
          rw [htl] at hrd hkp
          have HTS : Hid ((ms.take (q + 1)).foldl (exTake c t) R0 = exTake c t ((ms.take q).foldl (exTake c t) R0) mg) := by
            rw [Hid, take_snoc hmg, List.foldl_append]; rfl
          generalize (ms.take q).foldl (exTake c t) R0 = Rq at *
          obtain ⟨g, cap, hmv, -, -⟩ := ownsRow_some m2 (by omega)
          simp only [Value.slice.injEq, true_and] at hmv
          obtain ⟨rfl, rfl⟩ := hmv
          obtain ⟨d0, d1, d2⟩ := m2.cell hmg
          have hgl : g < wr.heap.size := (ownsRow_lt m2 (k := g) rfl).2
          obtain ⟨m0, m1, mt⟩ := mg
          simp only at d0 d1 d2
          have hb : Below wr.heap.size wr (wr.alloc (.cells #[.int .i64 m0, .int .i64 m1, .int .i64 mt] 199)) := (Below.refl _ _).alloc (Nat.le_refl _) _
          obtain ⟨cc1, cc2, cc3, cc4, cc5, cc6, cc7⟩ := cfgNum HCF.out
          have k0 := hMi.k0; have k1' := hMi.k1; have t0' := hMi.t0
          simp only at k0 k1' t0'
          have hnj := hrd.nj
          have HTAKE := hide (take_any base eb X mu dv (.slice (some ⟨L, 0, none⟩) n n) qv2 u1 hs2 c fed t Rq ⟨m0, m1, mt⟩ _ (k2.later hb) p2 (e2.later hb) (by simp; omega) (by simp; omega) (by omega) (by omega) (hrd.ctIn (by omega)) hrd.nj t0' ⟨k0, by simp only; omega⟩ cc7 (by omega) hck)
          have hL5 : LinesP (wr.alloc (.cells #[.int .i64 m0, .int .i64 m1, .int .i64 mt] 199)) base L (vs1.set i v') ((P.1 ++ ls.drop i).set i l') := l2.later hb
          have hM5 : MsgP (wr.alloc (.cells #[.int .i64 m0, .int .i64 m1, .int .i64 mt] 199)) W0.heap.size (.slice (some ⟨g, 0, none⟩) ms.length mc) ms := m2.later hb
          have hF5 : Fr (fun k => S k ∨ E k) w (wr.alloc (.cells #[.int .i64 m0, .int .i64 m1, .int .i64 mt] 199)) := f2.then_below hb
          have hK5 := k2.later hb
          have hE5 := e2.later hb
          have hzA : (wr.alloc (.cells #[.int .i64 m0, .int .i64 m1, .int .i64 mt] 199)).heap.size = wr.heap.size + 1 := by simp
          have HL5 := hide hL5
          have HM5 := hide hM5
          have HF5 := hide hF5
          have HK5 := hide hK5
          have HEE5 := hide hE5
          have HO2 := hide o2
          clear hL5 hM5 hF5 hK5 hE5 k2 p2 l2 m2 e2 f2 o2 hb hrd hMi hmg
          go_wp2_with fail
          refine HTAKE.out.mono ?_
          rintro e w5 ⟨qv5, hs5, ev5, rfl, k5, p5, e5, f5, oa5, ob5⟩
          have hX5 : ∀ k, (k = X ∨ qv2.ownBlock = some k ∨ u1.ownBlock = some k) → ¬ (k = L ∨ ∃ v ∈ vs1.set i v', v.ownBlock = some k) := by
            rintro k (rfl | e | e)
            · exact HL5.out.off HK5.out.q.blk (by decide) (by decide)
            · exact HL5.out.offRow HK5.out.q.row (by decide) (by decide) e
            · exact HL5.out.offRow HEE5.out (by decide) (by decide) e
          have hL6 : LinesP w5 base L (vs1.set i v') ((P.1 ++ ls.drop i).set i l') := HL5.out.same fun k hk => f5.block k (HL5.out.lt hk) (fun hx => hX5 k hx hk)
          have hM6 : MsgP w5 W0.heap.size (.slice (some ⟨g, 0, none⟩) ms.length mc) ms := ownsRow_same HM5.out fun k hk => f5.block k (ownsRow_lt HM5.out hk).2 (by
            rintro (e | e | e)
            · exact ownsRow_ne_blk HM5.out HK5.out.q.blk (by decide) (by rw [hk, e])
            · exact ownsRow_ne HM5.out HK5.out.q.row (by decide) hk e
            · exact ownsRow_ne HM5.out HEE5.out (by decide) hk e)
          have hF6 : Fr (fun k => S k ∨ E k) w w5 := HF5.out.trans f5 fun k hk hh => by
            rcases HO2.out.set k (by
              rcases hh with e | e | e
              · exact .inl e
              · exact .inr (.inr (.inl e))
              · exact .inr (.inr (.inr (.inl e)))) with h | h
            · exact h
            · omega
          have hO6 : RdOk S E w.heap.size X L qv5 ev5 (vs1.set i v') := ⟨HO2.out.x, HO2.out.l, fun k e => by
              rcases oa5 with o | ⟨z, o, hz⟩
              · exact HO2.out.q k (o ▸ e)
              · rw [o] at e; cases e; exact .inr (by omega), fun k e => by
              rcases ob5 with o | ⟨z, o, hz⟩
              · exact HO2.out.e k (o ▸ e)
              · rw [o] at e; cases e; exact .inr (by omega), HO2.out.v⟩
          have HR6 := hide (And.intro k5 (And.intro p5 e5))
          have HL6 := hide hL6
          have HM6 := hide hM6
          have HF6 := hide hF6
          have HO6 := hide hO6
          clear k5 p5 e5 f5 oa5 ob5 hX5 hL6 hM6 hF6 hO6 HL5 HM5 HF5 HK5 HEE5 HTAKE
          go_wp2
          go_roundw
          case rel =>
            refine ⟨q + 1, qv5, hs5, by go_num, by omega, ?_⟩
            rw [HTS.out]
            exact ⟨HR6.out.1, HR6.out.2.1, HL6.out, HM6.out, HR6.out.2.2, HF6.out, HO6.out⟩
          case measure => simp [intOf]; omega
        · have hqi : ¬ (q : Int) < (ms.length : Int) := by omega
          rw [List.take_of_length_le (by omega)] at k2 p2 e2
          have HES : Hid (exLines c t (ls.take (i + 1)) r = (P.1 ++ [l'], ms.foldl (exTake c t) R0)) := by
            rw [Hid, take_snoc HLI.out, exLines_snoc, HPP.out, HEL.out]
          have HLS : Hid ((P.1 ++ ls.drop i).set i l' = P.1 ++ [l'] ++ ls.drop (i + 1)) := by
            rw [Hid, List.set_append_right _ _ (by omega), hpl, Nat.sub_self, drop_cons HLI.out]
            simp
          have HR6 := hide (And.intro k2 (And.intro p2 e2))
          have HL6 := hide l2
          have HF6 := hide f2
          have HO6 := hide o2
          clear k2 p2 e2 l2 m2 f2 o2
          go_wp2
          go_roundw
          case rel =>
            refine ⟨i + 1, qv2, hs2, vs1.set i v', by go_num, by omega, ?_⟩
            rw [HES.out]
            refine ⟨HR6.out.1, HR6.out.2.1, ?_, HR6.out.2.2, HF6.out, HO6.out⟩
            rw [← HLS.out]
            exact HL6.out
          case measure => simp [intOf]; omega
    · have hii : ¬ (i : Int) < (n : Int) := by omega
      have hie : i = n := by omega
      have HK1 := hide hk1
      have HP1 := hide hp1
      have HL1 := hide hl1
      have HE1 := hide he1
      have HF1 := hide hf1
      have HO1 := hide ho1
      clear hk1 hp1 hl1 he1 hf1 ho1 hrd1 hpn
      have HPF : Hid (exLines c t ls r = P) := by
        rw [Hid, ← HPP.out, List.take_of_length_le (by rw [HN.out]; omega)]
      go_wp2
      go_ret
      rw [HPF.out]
      refine ⟨qv1, hs1, u1, rfl, HK1.out, HP1.out, vs1, ?_, HE1.out, HF1.out, HO1.out⟩
      have := HL1.out
      rw [List.drop_of_length_le (by rw [HN.out]; omega), List.append_nil] at this
      exact this

end Go.Proofs.YthloffgebebijaaGreat
