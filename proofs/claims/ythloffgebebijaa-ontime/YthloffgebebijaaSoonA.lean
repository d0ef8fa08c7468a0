/- SoonA: the walk of tillerkeep's soonest. -/
import Derived.Test.YthloffgebebijaaComC
import Derived.Deep.DeepCutAuto
import Derived.Deep.LoopGhost
import Derived.Deep.RegionHeld
import Derived.Deep.DrawnRows
namespace Go.Proofs.Ythloffgebebijaa
open Go.RowKit Go.MuLone
attribute [local go_sem ↓] Go.wp_at_zero Go.wp_at_succ

/-- Ints, in a row of the call's own. -/
def IntP (w : World) (base : Nat) (v : Value) (l : List Int) : Prop := w.ownsRow base 3 1 v l.length (l.map (Value.int .i64))
theorem info_int1 : (Try.prog.info? 3).map (fun i => (i.zero, i.size, i.bytes)) = some (some (.int .i64 0), 1, 8) := by kernel_rfl
theorem wpList_appNum {w : World} {ops : Array Oper} {rest : List Oper} {o : Oper} {a : Act} {Q : Exit → Act → World → Prop} (hgd : o.guard = none) (s x : Operand)
    (ho : o.op = .call { callee := .builtin .append, args := #[s, x], argTypes := #[37, 37] })
    (base : Nat) (v : Value) (l : List Int) (f : Int) (hs : a.eval s = v) (hown : IntP w base v l) (ad : Addr) (c : Nat) (hx : a.eval x = .slice (some ad) 1 c) (hnews : ∀ j u, [Value.int .i64 f][j]? = some u → w.cell? (ad.add j) = some u) (hlen : l.length ≤ 1000000000) (hbase : base ≤ w.heap.size)
    (h : ∀ v' w', IntP w' base v' (l ++ [f]) → w.grownBy w' v.ownBlock → (v'.ownBlock = v.ownBlock ∨ v'.ownBlock = some w.heap.size) → wpList Try.prog ops Q rest (a.put o.dst v') w') :
    wpList Try.prog ops Q (o :: rest) a w := by
  obtain ⟨i0, hi0, hz0, hz1, hz2⟩ := info_parts info_int1
  refine wpList_append_own_at _ hgd s x 37 ho base 3 i0 (.int .i64 0) 1 8 Try.underlying37 hi0 hz0 hz1 hz2 rfl (by decide) v l.length (l.map (Value.int .i64)) hs hown ad 1 c [Value.int .i64 f] hx rfl hnews ?_ (by unfold maxLen; omega) (by omega) hbase ?_
  · intro u hu
    simp only [List.mem_cons, List.not_mem_nil, or_false] at hu
    subst hu
    rfl
  · intro v' w' o1 g1 _ l1
    refine h v' w' ?_ g1 l1
    unfold IntP
    rw [List.map_append, List.length_append]
    exact o1
theorem IntP.at {w : World} {base : Nat} {v : Value} {d : List Int} (p : IntP w base v d) {i : Nat} {x : Int} (hx : d[i]? = some x) : ∃ dg dc, v = .slice (some ⟨dg, 0, none⟩) d.length dc ∧ dg < w.heap.size ∧ base ≤ dg ∧ w.cell? ⟨dg, i, none⟩ = some (.int .i64 x) := by
  have hil := lt_of_get hx
  obtain ⟨dg, dcap, hdg, -, -⟩ := ownsRow_some p (by omega)
  subst hdg
  refine ⟨dg, dcap, rfl, (ownsRow_lt p (k := dg) rfl).2, (ownsRow_lt p (k := dg) rfl).1, ?_⟩
  have h1 := World.ownsRow.cells (g := dg) p (by rfl) i (.int .i64 x) (by simp [hx])
  rw [Addr.add] at h1
  split at h1
  · rename_i h0; rw [h0]; exact h1
  · simpa using h1
theorem SentP.at {w : World} {base : Nat} {v : Value} {d : List (Int × Int)} (p : SentP w base v d) {i : Nat} {s : Int × Int} (hs : d[i]? = some s) : ∃ dg dc, v = .slice (some ⟨dg, 0, none⟩) d.length dc ∧ dg < w.heap.size ∧ base ≤ dg ∧ w.cell? ⟨dg, i * 2, none⟩ = some (.int .i64 s.1) ∧ w.cell? ⟨dg, i * 2 + 1, none⟩ = some (.int .i64 s.2) := by
  have hil := lt_of_get hs
  obtain ⟨dg, dcap, hdg, -, -⟩ := ownsRow_some p (by omega)
  subst hdg
  refine ⟨dg, dcap, rfl, (ownsRow_lt p (k := dg) rfl).2, (ownsRow_lt p (k := dg) rfl).1, ?_⟩
  have h5 : ∀ c ∈ d.map sCells, c.length = 2 := by
    intro c hc
    obtain ⟨j, _, rfl⟩ := List.mem_map.1 hc
    rfl
  have hc : ∀ j v, j < 2 → (sCells s)[j]? = some v → w.cell? ⟨dg, i * 2 + j, none⟩ = some v := fun j v hj hv => by
    have hg : (srow d)[i * 2 + j]? = some v := by
      rw [srow, flatten_get h5 i j hj, List.getElem?_map, hs]
      exact hv
    have h1 := World.ownsRow.cells (g := dg) p (by rfl) (i * 2 + j) _ hg
    rw [Addr.add] at h1
    split at h1
    · rename_i h0; rw [h0]; exact h1
    · simpa using h1
  exact ⟨hc 0 _ (by decide) rfl, hc 1 _ (by decide) rfl⟩

theorem ticksOf_take {sent : List (Int × Int)} {i : Nat} {s : Int × Int} {k : Int} (h : sent[i]? = some s) : ticksOf (sent.take (i + 1)) k = ticksOf (sent.take i) k ++ (if s.1 = k then [s.2] else []) := by
  rw [take_snoc h]
  unfold ticksOf
  rw [List.filter_append, List.map_append]
  congr 1
  by_cases hk : s.1 = k <;> simp [hk]
theorem ticksOf_len (sent : List (Int × Int)) (k : Int) : (ticksOf sent k).length ≤ sent.length := by
  unfold ticksOf
  rw [List.length_map]
  exact List.length_filter_le _ _

set_option maxRecDepth 100000 in
set_option maxHeartbeats 8000000 in
theorem soonest_any (V : World) (H X n scap sb so k : Nat) (c : Cfg) (hn : c.tasks.length = n) (hsb : sb < V.heap.size) (ht : ∀ i t, c.tasks[i]? = some t → TaskAt V V.heap.size sb (so + i * 3) t) (hok : cfgOk c = true) (hk : k < n) : SoonOk V H X c (.slice (some ⟨sb, so, none⟩) n scap) (k : Int) := by
  intro w Z h t p hst hsl ht0 ht5
  obtain ⟨tk, htk⟩ := get_of_lt (l := c.tasks) (k := k) (by omega)
  obtain ⟨x1, x2, ls, x3, la, lc, rfl, x4⟩ := ht k tk htk
  have hlo : limsOf c (k : Int) = tk.lims := by simp [limsOf, htk]
  have hli := limsOf_in hok (k : Int)
  rw [hlo] at hli
  have HSO : Hid (soonI c h.sent k t = tk.lims.foldl (limUp (ticksOf h.sent k)) t) := by rw [Hid, soonI, hlo]
  have HTI := hide (ticksOf_in hst (k : Int))
  have hll : tk.lims.length ≤ 3 := by
    have h1 := hok
    simp only [cfgOk, tasksOk, Bool.and_eq_true, decide_eq_true_eq, List.all_eq_true] at h1
    have := h1.2.2.2.2.2.2 tk (List.mem_of_getElem? htk)
    simp only [taskOk, limsOk, Bool.and_eq_true, decide_eq_true_eq] at this
    omega
  have hki : (k : Int) < (n : Int) := by omega
  have hk0 : (0 : Int) ≤ (k : Int) := by omega
  have HP := hide p
  have HLI := hide hli
  obtain ⟨⟨S, sv, dv, m1, m2, m3, m4, m5⟩, mz, mh, mb⟩ := p
  have hH := m1.blk.lt
  have g8 : w.cell? ⟨H, 8, none⟩ = some sv := m1.blk.cell 8
  have g5 : w.cell? ⟨H, 5, none⟩ = some (.slice (some ⟨sb, so, none⟩) n scap) := m1.blk.cell 5
  have hsbw : sb < w.heap.size := by have := mb.size; omega
  have g2 : w.cell? ⟨sb, so + k * 3 + 2, none⟩ = some (.slice la tk.lims.length lc) := (mb.cell (p := ⟨sb, so + k * 3 + 2, none⟩) hsb).trans x3
  have HLM : Hid (tk.lims = [] ∨ ∃ lb lo, la = some ⟨lb, lo, none⟩ ∧ lb < w.heap.size ∧ ∀ i l, tk.lims[i]? = some l → LimAt w lb (lo + i * 2) l) := x4.imp id fun ⟨b, o, y1, y2, y3⟩ => ⟨b, o, y1, by have := mb.size; omega, fun i l hl => (y3 i l hl).later mb y2⟩
  have HM2 := hide m2
  obtain ⟨va, vc, hsv⟩ := ownsRow_slice m2
  generalize hSN : h.sent.length = sn at *
  have HSNn := hide hSN
  generalize hLN : tk.lims.length = ln at *
  have HLN := hide hLN
  subst hsv
  clear x1 x2 x3 x4 m1 m2 m3 m4 m5 mz mh mb hli hlo hst hSN hLN htk ht
  go_enter Try.func30, Try.ntmps30
  go_wp2_with fail
  go_loopg [7, 8] sn (fun g lv iv wr => ∃ i : Nat, iv = .int .i64 i ∧ g = sn - i ∧ i ≤ sn ∧ IntP wr w.heap.size lv (ticksOf (h.sent.take i) k) ∧ Below w.heap.size w wr)
  case atStart => exact ⟨0, rfl, by omega, Nat.zero_le _, by simp only [List.take_zero, ticksOf, List.filter_nil, List.map_nil]; exact World.ownsRow_nil _ _ _ _, Below.refl _ _⟩
  case round =>
    obtain ⟨i, rfl, hg, hil, hip, hb⟩ := hrel
    have HG := hide hg
    have HIP := hide hip
    have HB := hide hb
    have hzr := hb.size
    have y8 : wr.cell? ⟨H, 8, none⟩ = some (.slice va sn vc) := (hb.cell (p := ⟨H, 8, none⟩) hH).trans g8
    have hHr : H < wr.heap.size := by omega
    clear hg hb hip
    obtain ⟨lla, llc, hlv⟩ := ownsRow_slice HIP.out
    have hlen := ticksOf_len (h.sent.take i) (k : Int)
    have hlen2 : (h.sent.take i).length ≤ sn := by rw [List.length_take, HSNn.out]; omega
    by_cases hlt : i < sn
    · have hii : (i : Int) < (sn : Int) := by omega
      obtain ⟨s, hs⟩ := get_of_lt (l := h.sent) (k := i) (by rw [HSNn.out]; exact hlt)
      obtain ⟨sg, sc, hv2, hsg, -, a0, a1⟩ := HM2.out.at hs
      simp only [Value.slice.injEq] at hv2
      obtain ⟨rfl, -, rfl⟩ := hv2
      have m0 := (HB.out.cell (p := ⟨sg, i * 2, none⟩) hsg).trans a0
      have m1 := (HB.out.cell (p := ⟨sg, i * 2 + 1, none⟩) hsg).trans a1
      have hsr : sg < wr.heap.size := by omega
      have HTT := hide (ticksOf_take (k := (k : Int)) hs)
      generalize hTL : ticksOf (h.sent.take i) (k : Int) = TL at *
      obtain ⟨s1, s2⟩ := s
      simp only at m0 m1 HTT
      clear hs a0 a1 hTL
      generalize hnl : TL.length = nl at *
      subst hlv
      by_cases hsk : s1 = (k : Int)
      · subst hsk
        have hq : Below wr.heap.size wr (wr.alloc (.cells #[.int .i64 s2] 3)) := (Below.refl _ _).alloc (Nat.le_refl _) _
        have HI2 : Hid (IntP (wr.alloc (.cells #[.int .i64 s2] 3)) w.heap.size (.slice lla nl llc) TL) := ownsRow_same HIP.out fun k hk => hq.block k (ownsRow_lt HIP.out hk).2
        have HFR := hide (fresh_cells wr [.int .i64 s2] 3 _ rfl)
        have HON : Hid (∀ k, (Value.slice lla nl llc).ownBlock = some k → w.heap.size ≤ k) := fun k hk => (ownsRow_lt HIP.out hk).1
        have HQ := hide hq
        clear hq
        go_upto_region 6 with (fail)
        go_wp2_with (at_builtin; go_must (refine wpList_appNum rfl _ _ rfl w.heap.size (.slice lla nl llc) TL s2 rfl HI2.out ⟨wr.heap.size, 0, none⟩ 1 rfl HFR.out (by omega) (by simp; omega) ?_))
        intro v5 w5 e5 g5' o5
        have HB5 : Hid (Below w.heap.size w w5) := (HB.out.trans (HQ.out.mono hzr)).trans ((Fr.of_grown (X := fun k => (Value.slice lla nl llc).ownBlock = some k) g5' fun k e _ => e).below (by simp; omega) HON.out)
        obtain ⟨l5, c5, hv5⟩ := ownsRow_slice e5
        generalize (TL ++ [s2]).length = n5 at hv5
        subst hv5
        have HE5 := hide e5
        clear e5 g5' o5
        go_wp2_with fail
        go_roundg (sn - (i + 1))
        case measure => have := HG.out; omega
        case rel => exact ⟨i + 1, by go_num, rfl, by omega, by rw [HTT.out]; simp only [if_true]; exact HE5.out, HB5.out⟩
      · have hskb : (s1 == (k : Int)) = false := by simp [hsk]
        go_wp2_with fail
        go_roundg (sn - (i + 1))
        case measure => have := HG.out; omega
        case rel => exact ⟨i + 1, by go_num, rfl, by omega, by rw [HTT.out, if_neg hsk, List.append_nil]; exact HIP.out, HB.out⟩
    · have hii : ¬ (i : Int) < (sn : Int) := by omega
      have hti : h.sent.take i = h.sent := List.take_of_length_le (by rw [HSNn.out]; omega)
      rw [hti] at HIP hlv hlen
      generalize ticksOf h.sent (k : Int) = TL at *
      generalize hnl : TL.length = nl at *
      have HNL := hide hnl
      have hnls : nl ≤ sn := by have := HSNn.out; omega
      subst hlv
      obtain ⟨W8, hw8⟩ : ∃ W, W = wr := ⟨_, rfl⟩
      subst hw8
      clear hti hnl
      go_wp2_with fail
      go_loopg [2, 9] ln (fun g tv iv wr => ∃ (i : Nat) (t' : Int), tv = .int .i64 t' ∧ iv = .int .i64 i ∧ g = ln - i ∧ i ≤ ln ∧ t' = (tk.lims.take i).foldl (limUp TL) t ∧ 0 ≤ t' ∧ t' ≤ 5000 ∧ Below W8.heap.size W8 wr)
      case atStart => exact ⟨0, t, rfl, rfl, by omega, Nat.zero_le _, rfl, ht0, ht5, Below.refl _ _⟩
      case round =>
        obtain ⟨j, t', rfl, rfl, hgj, hjl, htj, t0, t5, hbj⟩ := hrel
        have HGJ := hide hgj
        have HTJ := hide htj
        have HBJ := hide hbj
        have hzj := hbj.size
        have hbw : Below w.heap.size w wr := HB.out.trans (hbj.mono hzr)
        have HBW := hide hbw
        have z5 : wr.cell? ⟨H, 5, none⟩ = some (.slice (some ⟨sb, so, none⟩) n scap) := (hbw.cell (p := ⟨H, 5, none⟩) hH).trans g5
        have z2 : wr.cell? ⟨sb, so + k * 3 + 2, none⟩ = some (.slice la ln lc) := (hbw.cell (p := ⟨sb, so + k * 3 + 2, none⟩) hsbw).trans g2
        have hHj : H < wr.heap.size := by omega
        have hsj : sb < wr.heap.size := by omega
        clear hgj htj hbj hbw y8
        by_cases hjj : j < ln
        · have hji : (j : Int) < (ln : Int) := by omega
          obtain ⟨x, hx⟩ := get_of_lt (l := tk.lims) (k := j) (by rw [HLN.out]; exact hjj)
          rcases HLM.out with he | ⟨lb, lo, rfl, hlb, hlc⟩
          · rw [he] at hx; simp at hx
          obtain ⟨q0, q1⟩ := (hlc j x hx).later HBW.out hlb
          have hlbr : lb < wr.heap.size := by omega
          obtain ⟨xi1, xi2, xi3, xi4⟩ := HLI.out x (List.mem_of_getElem? hx)
          have HFD : Hid ((tk.lims.take (j + 1)).foldl (limUp TL) t = limUp TL t' x) := by
            rw [Hid, take_snoc hx, List.foldl_append, ← HTJ.out]
            rfl
          clear hx hlc
          obtain ⟨xw, xc⟩ := x
          simp only at q0 q1 xi1 xi2 xi3 xi4
          have hq : Below wr.heap.size wr (wr.alloc (.cells #[.int .i64 xw, .int .i64 xc] 74)) := (Below.refl _ _).alloc (Nat.le_refl _) _
          have HQ := hide hq
          have hxb := Blk.new wr #[.int .i64 xw, .int .i64 xc] 74
          have HXB := hide hxb
          clear hq hxb
          by_cases hge : xc ≤ (nl : Int)
          · obtain ⟨cn, hcn⟩ : ∃ cn : Nat, xc = cn := ⟨xc.toNat, by omega⟩
            obtain ⟨y, hy⟩ := get_of_lt (l := TL) (k := nl - cn) (by rw [HNL.out]; omega)
            obtain ⟨ig, ic, hv3, hig, -, hyc⟩ := HIP.out.at hy
            simp only [Value.slice.injEq] at hv3
            obtain ⟨rfl, -, rfl⟩ := hv3
            have hyc' := (HBJ.out.cell (p := ⟨ig, nl - cn, none⟩) hig).trans hyc
            have hyin := HTI.out y (List.mem_of_getElem? hy)
            have hgd : TL.getD (TL.length - xc.toNat) 0 = y := by
              rw [HNL.out, hcn, Int.toNat_natCast, List.getD_eq_getElem?_getD, hy]
              rfl
            have HLU : Hid (limUp TL t' (xw, xc) = max t' (y + xw)) := by
              rw [Hid, limUp, if_pos (by rw [HNL.out]; exact hge), hgd]
            have hidx : ((nl : Int) - (cn : Int)).toNat = nl - cn := by omega
            have hix0 : (0 : Int) ≤ (nl : Int) - (cn : Int) := by omega
            have hix1 : (nl : Int) - (cn : Int) < (nl : Int) := by omega
            have higr : ig < wr.heap.size := by omega
            subst hcn
            have hwr : IntKind.i64.wrap ((nl : Int) - (cn : Int)) = (nl : Int) - (cn : Int) := IntWalk.i64_in _ ⟨by omega, by omega⟩
            clear hgd hy hyc
            go_upto_region 12 with (fail)
            have HSZ : Hid ((wr.alloc (.cells #[.int .i64 xw, .int .i64 (cn : Int)] 74)).heap.size = wr.heap.size + 1) := by rw [Hid]; simp
            generalize (wr.alloc (.cells #[.int .i64 xw, .int .i64 (cn : Int)] 74)) = WL at *
            have o0 : WL.cell? ⟨wr.heap.size, 0, none⟩ = some (.int .i64 xw) := HXB.out.cell 0
            have o1 : WL.cell? ⟨wr.heap.size, 1, none⟩ = some (.int .i64 (cn : Int)) := HXB.out.cell 1
            have oy := (HQ.out.cell (p := ⟨ig, nl - cn, none⟩) higr).trans hyc'
            have l1 : wr.heap.size < WL.heap.size := by have := HSZ.out; omega
            have l2 : ig < WL.heap.size := by omega
            by_cases hmx : t' < y + xw
            · have hm : max t' (y + xw) = y + xw := by omega
              go_quiet ((fail))
              go_wp2_with fail
              go_roundg (ln - (j + 1))
              case measure => have := HGJ.out; omega
              case rel => exact ⟨j + 1, y + xw, rfl, by go_num, rfl, by omega, by rw [HFD.out, HLU.out, hm], by omega, by omega, below_drewN (HBJ.out.trans (HQ.out.mono hzj)) _⟩
            · have hm : max t' (y + xw) = t' := by omega
              have hmz : (t' < y + xw) = False := eq_false hmx
              go_quiet ((fail))
              go_wp2_with fail
              go_roundg (ln - (j + 1))
              case measure => have := HGJ.out; omega
              case rel => exact ⟨j + 1, t', rfl, by go_num, rfl, by omega, by rw [HFD.out, HLU.out, hm], by omega, by omega, below_drewN (HBJ.out.trans (HQ.out.mono hzj)) _⟩
          · have hgb : ¬ xc ≤ (nl : Int) := hge
            have HLU : Hid (limUp TL t' (xw, xc) = t') := by
              rw [Hid, limUp, if_neg (by rw [HNL.out]; exact hge)]
            go_wp2_with fail
            go_roundg (ln - (j + 1))
            case measure => have := HGJ.out; omega
            case rel => exact ⟨j + 1, t', rfl, by go_num, rfl, by omega, by rw [HFD.out, HLU.out], t0, t5, HBJ.out.trans (HQ.out.mono hzj)⟩
        · have hji : ¬ (j : Int) < (ln : Int) := by omega
          have hte : tk.lims.take j = tk.lims := List.take_of_length_le (by rw [HLN.out]; omega)
          go_wp2_with fail
          go_ret
          refine ⟨?_, HP.out.later HBW.out, fun q hq => HBW.out.block q (HP.out.zl q hq)⟩
          rw [HSO.out, ← hte, ← HTJ.out]
          rfl

end Go.Proofs.Ythloffgebebijaa
