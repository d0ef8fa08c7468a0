/- LineF: the walk of a line's Read. -/
import Derived.Test.YthloffgebebijaaLineE
namespace Go.Proofs.Ythloffgebebijaa
open Go.RowKit

theorem lnRead_fuel : ∀ (f g : Nat) (l : List Fd), l.length ≤ f → l.length ≤ g → lnRead f l = lnRead g l
  | 0, 0, _, _, _ => rfl
  | 0, g + 1, l, hf, _ => by
    obtain rfl : l = [] := List.length_eq_zero_iff.1 (by omega)
    simp [lnRead]
  | f + 1, 0, l, _, hg => by
    obtain rfl : l = [] := List.length_eq_zero_iff.1 (by omega)
    simp [lnRead]
  | f + 1, g + 1, l, hf, hg => by
    rw [lnRead, lnRead]
    by_cases h1 : l = [] ∨ unfin l = true
    · rw [if_pos h1, if_pos h1]
    · have hp : 0 < l.length := List.length_pos_iff.2 fun e => h1 (.inl e)
      rw [if_neg h1, if_neg h1, lnRead_fuel f g (l.drop 4) (by rw [List.length_drop]; omega) (by rw [List.length_drop]; omega), lnRead_fuel f g (l.drop 1) (by rw [List.length_drop]; omega) (by rw [List.length_drop]; omega)]
/-- The reading, with the fuel that it needs. -/
def lnR (l : List Fd) : List Mg × Nat × List Fd := lnRead l.length l
theorem lnR_stop {l : List Fd} (h : l = [] ∨ unfin l = true) : lnR l = ([], 0, l) := by
  unfold lnR
  cases hl : l.length with
  | zero => rfl
  | succ n => rw [lnRead, if_pos h]
theorem lnR_msg {l : List Fd} (h : ¬ (l = [] ∨ unfin l = true)) (hm : isMg l = true) : lnR l = (mgOf l :: (lnR (l.drop 4)).1, (lnR (l.drop 4)).2.1, (lnR (l.drop 4)).2.2) := by
  have hp : 0 < l.length := List.length_pos_iff.2 fun e => h (.inl e)
  unfold lnR
  obtain ⟨n, hn⟩ : ∃ n, l.length = n + 1 := ⟨l.length - 1, by omega⟩
  conv => lhs; rw [hn]
  rw [lnRead, if_neg h, if_pos hm, lnRead_fuel n (l.drop 4).length (l.drop 4) (by rw [List.length_drop]; omega) (Nat.le_refl _)]
theorem lnR_bad {l : List Fd} (h : ¬ (l = [] ∨ unfin l = true)) (hm : isMg l = false) : lnR l = ((lnR (l.drop 1)).1, (lnR (l.drop 1)).2.1 + 1, (lnR (l.drop 1)).2.2) := by
  have hp : 0 < l.length := List.length_pos_iff.2 fun e => h (.inl e)
  unfold lnR
  obtain ⟨n, hn⟩ : ∃ n, l.length = n + 1 := ⟨l.length - 1, by omega⟩
  conv => lhs; rw [hn]
  rw [lnRead, if_neg h, if_neg (by simp [hm]), lnRead_fuel n (l.drop 1).length (l.drop 1) (by rw [List.length_drop]; omega) (Nat.le_refl _)]
theorem isMg_four {l : List Fd} (h : isMg l = true) : 4 ≤ l.length := by
  match l, h with
  | _ :: _ :: _ :: _ :: _, _ => simp

def mgCells (m : Mg) : List Value := [.int .i64 m.task, .int .i64 m.cost, .int .i64 m.tick]
def mrow (ms : List Mg) : List Value := (ms.map mgCells).flatten
theorem mrow_append (a b : List Mg) : mrow (a ++ b) = mrow a ++ mrow b := by simp [mrow]
/-- Messages, in a row of the call's own. -/
def MsgP (w : World) (base : Nat) (v : Value) (ms : List Mg) : Prop := w.ownsRow base 148 3 v ms.length (mrow ms)
theorem MsgP.later {w w' : World} {base : Nat} {v : Value} {ms : List Mg} (h : MsgP w base v ms) (hb : Below w.heap.size w w') : MsgP w' base v ms := ownsRow_same h fun k hk => hb.block k (ownsRow_lt h hk).2

theorem info_msg : (Try.prog.info? 148).map (fun i => (i.zero, i.size, i.bytes)) = some (some (.agg #[.int .i64 0, .int .i64 0, .int .i64 0]), 3, 24) := by kernel_rfl
theorem wpList_appMsg {w : World} {ops : Array Oper} {rest : List Oper} {o : Oper} {a : Act} {Q : Exit → Act → World → Prop} (hgd : o.guard = none) (s x : Operand)
    (ho : o.op = .call { callee := .builtin .append, args := #[s, x], argTypes := #[144, 144] })
    (base : Nat) (v : Value) (l : List Mg) (f : Mg) (hs : a.eval s = v) (hown : MsgP w base v l) (ad : Addr) (c : Nat) (hx : a.eval x = .slice (some ad) 1 c) (hnews : ∀ j u, (mgCells f)[j]? = some u → w.cell? (ad.add j) = some u) (hlen : l.length ≤ 1000000) (hbase : base ≤ w.heap.size)
    (h : ∀ v' w', MsgP w' base v' (l ++ [f]) → w.grownBy w' v.ownBlock → wpList Try.prog ops Q rest (a.put o.dst v') w') :
    wpList Try.prog ops Q (o :: rest) a w := by
  obtain ⟨i0, hi0, hz0, hz1, hz2⟩ := info_parts info_msg
  refine wpList_append_own_at _ hgd s x 144 ho base 148 i0 (.agg #[.int .i64 0, .int .i64 0, .int .i64 0]) 3 24 Try.underlying144 hi0 hz0 hz1 hz2 rfl (by decide) v l.length (mrow l) hs hown ad 1 c (mgCells f) hx rfl hnews ?_ (by unfold maxLen; omega) (by omega) hbase ?_
  · intro u hu
    simp only [mgCells, List.mem_cons, List.not_mem_nil, or_false] at hu
    rcases hu with rfl | rfl | rfl <;> rfl
  · intro v' w' o1 g1 _ _
    refine h v' w' ?_ g1
    unfold MsgP
    rw [mrow_append, List.length_append]
    have e : mrow [f] = mgCells f := by simp [mrow]
    rw [e]
    exact o1

def lenS : Value → Nat
  | .slice _ n _ => n
  | _ => 0
/-- The rest of a line that is read: a slice of its row from the place q on. -/
def RestV (rv : Value) (g q : Nat) (R : List Fd) : Prop := ∃ a c, rv = .slice a R.length c ∧ R.length ≤ c ∧ c ≤ maxLen ∧ (R = [] ∨ a = some ⟨g, q * 2, none⟩)

theorem RestV.step {g q rl rc : Nat} (k : Nat) {R R' : List Fd} {A : Option Addr} (hR : R.length = rl) (hR' : R' = R.drop k) (hk : k ≤ rl) (hc : rl ≤ rc) (hm : rc ≤ maxLen) (hA : A = if rc = k then some ⟨g, q * 2, none⟩ else some ⟨g, q * 2 + k * 2, none⟩) : RestV (.slice A (rl - k) (rc - k)) g (q + k) R' := by
  refine ⟨A, rc - k, by rw [hR', List.length_drop, hR], by rw [hR', List.length_drop, hR]; omega, by omega, ?_⟩
  by_cases h : rc = k
  · left
    rw [hR']
    exact List.drop_eq_nil_of_le (by omega)
  · right
    rw [hA, if_neg h, Nat.add_mul]

set_option maxRecDepth 100000 in
set_option maxHeartbeats 3200000 in
theorem lRead_any (base X o : Nat) (cs : Array Value) (tt : TypeId) (v : Value) (l : List Fd) (t : Int) (w : World) (hB : Blk w X cs tt) (hcs : cs[o]? = some v) (h : FedP w base v l) (hX : v.ownBlock ≠ some X) (hl : l.length ≤ 32) (hin : ∀ f ∈ l, FdIn f) (hbase : base ≤ w.heap.size) :
    Calls Try.prog 76 #[.pointer (some ⟨X, o, none⟩), .int .i64 t] w fun e w' => ∃ mv v', e = .returned (.tuple #[mv, .int .i64 (lnR (l.take (fedBy t l))).2.1]) ∧ MsgP w' w.heap.size mv (lnR (l.take (fedBy t l))).1 ∧ Blk w' X (cs.setIfInBounds o v') tt ∧ FedP w' base v' (l.drop (fedBy t l - (lnR (l.take (fedBy t l))).2.2.length)) ∧ Fr (fun k => k = X ∨ v.ownBlock = some k) w w' ∧ v'.ownBlock = v.ownBlock := by
  have ho : o < cs.size := by
    rcases Nat.lt_or_ge o cs.size with h' | h'
    · exact h'
    · rw [Array.getElem?_eq_none h'] at hcs; cases hcs
  obtain ⟨a, c, hve⟩ := ownsRow_slice h
  subst hve
  have hXl := hB.lt
  have c0 : w.cell? ⟨X, o, none⟩ = some (.slice a l.length c) := (hB.cell o).trans hcs
  have hlc : l.length ≤ c ∧ c ≤ maxLen := by
    rcases h.2 with ⟨h2, h3⟩ | ⟨g', cap', cur, h2, _, _, h3, h4, _⟩
    · simp at h2; unfold maxLen; omega
    · simp at h2; omega
  obtain ⟨g, hg⟩ : ∃ g, l = [] ∨ a = some ⟨g, 0, none⟩ := by
    rcases h.2 with ⟨h2, h3⟩ | ⟨g', cap', cur, h2, _⟩
    · exact ⟨0, .inl (List.length_eq_zero_iff.1 h3)⟩
    · simp at h2; exact ⟨g', .inr h2.1⟩
  have HFB := hide (fedBy_any base X o (.slice a l.length c) l t w c0 h (by omega))
  have hfl := fedBy_le t l
  generalize hF : fedBy t l = fb at *
  have HR0 : Hid (RestV (.slice a fb c) g 0 (l.take fb)) := ⟨a, c, by rw [List.length_take, Nat.min_eq_left hfl], by rw [List.length_take]; omega, hlc.2, by
    rcases hg with e | e
    · exact .inl (by rw [e, List.take_nil])
    · exact .inr (by rw [e])⟩
  have HB := hide hB
  have HJ := hide h
  have HIN := hide hin
  generalize hN : l.length = n at *
  have HN := hide hN
  obtain ⟨hlc1, hlc2⟩ := hlc
  have HG := hide hg
  clear hB h hin hN hF hg
  go_enter Try.func76, Try.ntmps76
  go_wp2_with fail
  refine HFB.out.mono ?_
  rintro e w1 ⟨rfl, rfl⟩
  have hfi : (fb : Int) ≤ (n : Int) := by omega
  go_wp2_with fail
  go_loopw [6, 7, 9] (fun mv bv rv wr => ∃ (q : Nat) (ms : List Mg) (nb : Nat), bv = .int .i64 nb ∧ q ≤ fb ∧ RestV rv g q ((l.take fb).drop q) ∧ MsgP wr w1.heap.size mv ms ∧ lnR (l.take fb) = (ms ++ (lnR ((l.take fb).drop q)).1, nb + (lnR ((l.take fb).drop q)).2.1, (lnR ((l.take fb).drop q)).2.2) ∧ ms.length + nb ≤ q ∧ Below w1.heap.size w1 wr) (fun _ _ rv _ => lenS rv)
  case atStart => exact ⟨0, [], 0, rfl, Nat.zero_le _, HR0.out, World.ownsRow_nil _ _ _ _, by simp, by simp, Below.refl _ _⟩
  case round =>
    obtain ⟨q, ms, nb, rfl, hq, hrv, hms, heq, hsum, hbe⟩ := hrel
    obtain ⟨ra, rc, rfl, hrc, hrc2, hra⟩ := hrv
    have hz := hbe.size
    have hRl : ((l.take fb).drop q).length = fb - q := by rw [List.length_drop, List.length_take, HN.out]; omega
    obtain ⟨ma, mc, hmv⟩ := ownsRow_slice hms
    subst hmv
    have d0 : wr.cell? ⟨X, o, none⟩ = some (.slice a n c) := (hbe.cell (p := ⟨X, o, none⟩) hXl).trans c0
    have HJr := hide (HJ.out.later hbe)
    have HBr : Hid (Blk wr X cs tt) := HB.out.later hbe hXl
    have HRIN : Hid (∀ f ∈ (l.take fb).drop q, FdIn f) := fun f hf => HIN.out f (List.mem_of_mem_take (List.mem_of_mem_drop hf))
    have HMS := hide hms
    have HEQ := hide heq
    have HBE := hide hbe
    have hXr := HBr.out.lt
    have hrl32 : ((l.take fb).drop q).length ≤ 32 := by omega
    have hrlfb : ((l.take fb).drop q).length ≤ fb := by omega
    clear hms heq hbe
    by_cases hne : (l.take fb).drop q = []
    · have HSTOP : Hid ((l.take fb).drop q = [] ∨ unfin ((l.take fb).drop q) = true) := .inl hne
      have hl0 : ((l.take fb).drop q).length = 0 := by rw [hne]; rfl
      have HRL : Hid (((l.take fb).drop q).length = 0) := hl0
      rw [hl0]
      clear hne hra hRl
      have HST : Hid (lnR (l.take fb) = (ms, nb, (l.take fb).drop q)) := by rw [Hid, HEQ.out, lnR_stop HSTOP.out]; simp
      have HDEL : Hid (Calls Try.prog 84 #[.slice a n c, .int .i64 0, .int .i64 ((fb : Int) - (0 : Int))] wr fun e w' => ∃ v', e = .returned v' ∧ FedP w' base v' (l.drop (fb - 0)) ∧ v'.ownBlock = (Value.slice a n c).ownBlock ∧ Fr (fun q => (Value.slice a n c).ownBlock = some q) wr w') := by
        have := delete_any base (.slice a n c) l (fb - 0) wr HJr.out (by rw [HN.out]; omega) (by rw [HN.out]; omega)
        rw [show ((fb - 0 : Nat) : Int) = (fb : Int) - (0 : Int) from by omega] at this
        exact this
      go_wp2_with fail
      refine HDEL.out.mono ?_
      rintro e w3 ⟨v3, rfl, j3, o3, f3⟩
      have b3 : Blk w3 X cs tt := (f3.block X HBr.out.lt hX).trans HBr.out
      have e0 : w3.cell? ⟨X, o, none⟩ = some (.slice a n c) := (b3.cell o).trans hcs
      have e0f := b3.free o
      obtain ⟨a3, c3, hv3⟩ := ownsRow_slice j3
      generalize (l.drop (fb - 0)).length = n3 at hv3
      subst hv3
      have HJ3 := hide j3
      have HF3 := hide f3
      have HB3 := hide b3
      have HO3 := hide o3
      clear j3 f3 b3 o3
      go_wp2
      go_ret2
      have hmB : ∀ z, (Value.slice ma ms.length mc).ownBlock = some z → w1.heap.size ≤ z ∧ z < wr.heap.size := fun z hz1 => ownsRow_lt HMS.out hz1
      have hvB : ∀ z, (Value.slice a n c).ownBlock = some z → z < w1.heap.size := fun z hz1 => (ownsRow_lt HJ.out hz1).2
      refine ⟨.slice ma ms.length mc, _, by rw [HST.out]; rfl, ?_, HB3.out.set o _, ?_, ?_, HO3.out⟩
      · rw [HST.out]
        refine ownsRow_same HMS.out fun z hz1 => ?_
        have hz2 := hmB z hz1
        rw [heap_setCell_other w3 ⟨X, o, none⟩ z _ (by simp; omega)]
        exact HF3.out.block z hz2.2 (fun e => by have := hvB z e; omega)
      · rw [HST.out]
        simp only
        rw [HRL.out]
        exact HJ3.out.same fun z hz1 => heap_setCell_other w3 ⟨X, o, none⟩ z _ (fun e => hX (by rw [← HO3.out, hz1, e]))
      · have f1 : Fr (fun k => k = X ∨ (Value.slice a n c).ownBlock = some k) w1 w3 := (Fr.of_below (X := fun k => k = X ∨ (Value.slice a n c).ownBlock = some k) HBE.out).trans HF3.out fun _ _ e => .inr e
        exact f1.trans (Fr.set (X := fun k => k = X) w3 X o _ rfl) fun _ _ e => .inl e
    · have ha : a = some ⟨g, 0, none⟩ := by
        rcases HG.out with e | e
        · exact absurd (by rw [e]; simp) hne
        · exact e
      have hra2 : ra = some ⟨g, q * 2, none⟩ := hra.resolve_left hne
      subst ha
      subst hra2
      have HV := hide (HJr.out.view q fb rc)
      have HUN := hide (unfin_any wr.heap.size _ _ wr HV.out hne)
      have HISM := hide (isMsg_any wr.heap.size _ _ wr HV.out HRIN.out (by omega))
      have HMSG : Hid (∀ w2, Below wr.heap.size wr w2 → isMg ((l.take fb).drop q) = true → Calls Try.prog 83 #[.slice (some ⟨g, q * 2, none⟩) ((l.take fb).drop q).length rc] w2 fun e w' => e = .returned (.agg #[.int .i64 (mgOf ((l.take fb).drop q)).task, .int .i64 (mgOf ((l.take fb).drop q)).cost, .int .i64 (mgOf ((l.take fb).drop q)).tick]) ∧ Below w2.heap.size w2 w') := fun w2 hb2 hm => msg_any wr.heap.size _ _ w2 (HV.out.later hb2 (Nat.le_refl _)) hb2.size HRIN.out hm (by omega)
      have hpos : 0 < ((l.take fb).drop q).length := List.length_pos_iff.2 hne
      have HNE := hide hne
      have HRR : Hid (((l.take fb).drop q).length = ((l.take fb).drop q).length) := rfl
      obtain ⟨rl, hrl⟩ : ∃ rl, ((l.take fb).drop q).length = rl := ⟨_, rfl⟩
      have HRL := hide hrl
      rw [hrl] at HUN HISM HMSG hpos hrc hRl hrl32 hrlfb ⊢
      have hpi : (0 : Int) < (rl : Int) := by omega
      have HQR := hide hRl
      clear hra hne hrl HRR HV hRl
      cases hun : unfin ((l.take fb).drop q) with
      | true =>
        have HSTOP : Hid ((l.take fb).drop q = [] ∨ unfin ((l.take fb).drop q) = true) := .inr hun
        have HUNF := hide hun
        clear hun
        have HST : Hid (lnR (l.take fb) = (ms, nb, (l.take fb).drop q)) := by rw [Hid, HEQ.out, lnR_stop HSTOP.out]; simp
        have HDEL : Hid (Calls Try.prog 84 #[.slice (some ⟨g, 0, none⟩) n c, .int .i64 0, .int .i64 ((fb : Int) - (rl : Int))] wr fun e w' => ∃ v', e = .returned v' ∧ FedP w' base v' (l.drop (fb - rl)) ∧ v'.ownBlock = (Value.slice (some ⟨g, 0, none⟩) n c).ownBlock ∧ Fr (fun q => (Value.slice (some ⟨g, 0, none⟩) n c).ownBlock = some q) wr w') := by
          have := delete_any base (.slice (some ⟨g, 0, none⟩) n c) l (fb - rl) wr HJr.out (by rw [HN.out]; omega) (by rw [HN.out]; omega)
          rw [show ((fb - rl : Nat) : Int) = (fb : Int) - (rl : Int) from by omega] at this
          exact this
        go_wp2_with (go_at_call 81; refine HUN.out.mono ?_; rintro e w2 ⟨he, hw2⟩; have hw3 := hw2.symm; subst hw3; rw [HUNF.out] at he; subst he)
        refine HDEL.out.mono ?_
        rintro e w3 ⟨v3, rfl, j3, o3, f3⟩
        have b3 : Blk w3 X cs tt := (f3.block X HBr.out.lt hX).trans HBr.out
        have e0 : w3.cell? ⟨X, o, none⟩ = some (.slice (some ⟨g, 0, none⟩) n c) := (b3.cell o).trans hcs
        have e0f := b3.free o
        obtain ⟨a3, c3, hv3⟩ := ownsRow_slice j3
        generalize (l.drop (fb - rl)).length = n3 at hv3
        subst hv3
        have HJ3 := hide j3
        have HF3 := hide f3
        have HB3 := hide b3
        have HO3 := hide o3
        clear j3 f3 b3 o3
        go_wp2
        go_ret2
        have hmB : ∀ z, (Value.slice ma ms.length mc).ownBlock = some z → w1.heap.size ≤ z ∧ z < wr.heap.size := fun z hz1 => ownsRow_lt HMS.out hz1
        have hvB : ∀ z, (Value.slice (some ⟨g, 0, none⟩) n c).ownBlock = some z → z < w1.heap.size := fun z hz1 => (ownsRow_lt HJ.out hz1).2
        refine ⟨.slice ma ms.length mc, _, by rw [HST.out]; rfl, ?_, HB3.out.set o _, ?_, ?_, HO3.out⟩
        · rw [HST.out]
          refine ownsRow_same HMS.out fun z hz1 => ?_
          have hz2 := hmB z hz1
          rw [heap_setCell_other w3 ⟨X, o, none⟩ z _ (by simp; omega)]
          exact HF3.out.block z hz2.2 (fun e => by have := hvB z e; omega)
        · rw [HST.out]
          simp only
          rw [HRL.out]
          exact HJ3.out.same fun z hz1 => heap_setCell_other w3 ⟨X, o, none⟩ z _ (fun e => hX (by rw [← HO3.out, hz1, e]))
        · have f1 : Fr (fun k => k = X ∨ (Value.slice (some ⟨g, 0, none⟩) n c).ownBlock = some k) w1 w3 := (Fr.of_below (X := fun k => k = X ∨ (Value.slice (some ⟨g, 0, none⟩) n c).ownBlock = some k) HBE.out).trans HF3.out fun _ _ e => .inr e
          exact f1.trans (Fr.set (X := fun k => k = X) w3 X o _ rfl) fun _ _ e => .inl e
      | false =>
        have HUNF := hide hun
        have HGO : Hid (¬ ((l.take fb).drop q = [] ∨ unfin ((l.take fb).drop q) = true)) := by
          rintro (e | e)
          · exact HNE.out e
          · rw [HUNF.out] at e; cases e
        clear hun
        cases him : isMg ((l.take fb).drop q) with
        | false =>
          have HIM := hide him
          clear him
          go_wp2_with fail
          refine HUN.out.mono ?_
          rintro e w2 ⟨he, hw2⟩
          have hw3 := hw2.symm
          subst hw3
          rw [HUNF.out] at he
          subst he
          go_wp2_with fail
          refine HISM.out.mono ?_
          rintro e w2 ⟨he, q2⟩
          rw [HIM.out] at he
          subst he
          have HQ2 := hide q2
          clear q2
          have h1i : (1 : Int) ≤ (rl : Int) := by omega
          have h1c : 1 ≤ rc := by omega
          have h1n : 1 ≤ rl := by omega
          go_wp2
          go_roundw
          case rel =>
            refine ⟨q + 1, ms, nb + 1, by go_num, by have := HQR.out; omega, RestV.step 1 HRL.out (by rw [List.drop_drop]) h1n (by omega) hrc2 rfl, HMS.out.later HQ2.out, ?_, by omega, HBE.out.trans (HQ2.out.mono hz)⟩
            have := HEQ.out
            rw [lnR_bad HGO.out HIM.out, List.drop_drop] at this
            rw [this]
            simp only [Prod.mk.injEq, true_and, and_true]
            omega
          case measure => simp only [lenS]; omega
        | true =>
          have HIM := hide him
          have h4 : 4 ≤ rl := by have := isMg_four him; rw [HRL.out] at this; exact this
          clear him
          go_wp2_with fail
          refine HUN.out.mono ?_
          rintro e w2 ⟨he, hw2⟩
          have hw3 := hw2.symm
          subst hw3
          rw [HUNF.out] at he
          subst he
          go_wp2_with fail
          refine HISM.out.mono ?_
          rintro e w2 ⟨he, q2⟩
          rw [HIM.out] at he
          subst he
          have HQ2 := hide q2
          have HMSG2 := hide (HMSG.out w2 q2 HIM.out)
          have hz2 := q2.size
          clear q2
          go_wp2_with fail
          refine HMSG2.out.mono ?_
          rintro e w3 ⟨rfl, q3⟩
          have hz3 := q3.size
          have HQ3 : Hid (Below wr.heap.size wr w3) := HQ2.out.trans (q3.mono hz2)
          clear q3
          have h1i : (4 : Int) ≤ (rl : Int) := by omega
          have h1c : 4 ≤ rc := by omega
          obtain ⟨mg, hmg⟩ : ∃ mg, mgOf ((l.take fb).drop q) = mg := ⟨_, rfl⟩
          have HMG := hide hmg
          rw [hmg]
          obtain ⟨m0, m1, m2⟩ := mg
          simp only
          clear hmg
          have HMS3 := hide ((HMS.out.later HQ3.out).later ((Below.refl _ w3).alloc (Nat.le_refl _) (.cells #[.int .i64 m0, .int .i64 m1, .int .i64 m2] 148)))
          go_wp2_with (at_builtin; go_must (refine wpList_appMsg rfl _ _ rfl w1.heap.size _ ms ⟨m0, m1, m2⟩ rfl HMS3.out ⟨w3.heap.size, 0, none⟩ 1 rfl (fresh_cells w3 [.int .i64 m0, .int .i64 m1, .int .i64 m2] 148 _ rfl) (by omega) (by simp; omega) ?_))
          intro v4 w4 j4 g4
          obtain ⟨a4, c4, hv4⟩ := ownsRow_slice j4
          subst hv4
          have HJ4 := hide j4
          have HQ4 : Hid (Below w1.heap.size w1 w4) := by
            have b1 : Below w1.heap.size w1 (w3.alloc (.cells #[.int .i64 m0, .int .i64 m1, .int .i64 m2] 148)) := (HBE.out.trans (HQ3.out.mono hz)).alloc (by omega) _
            refine b1.trans (below_grownBy_new g4 (by simp; omega) fun z hz1 => (ownsRow_lt HMS.out hz1).1)
          clear j4 g4
          go_wp2
          go_roundw
          case rel =>
            refine ⟨q + 4, ms ++ [⟨m0, m1, m2⟩], nb, rfl, by have := HQR.out; omega, RestV.step 4 HRL.out (by rw [List.drop_drop]) h4 (by omega) hrc2 rfl, HJ4.out, ?_, by simp; omega, HQ4.out⟩
            have := HEQ.out
            rw [lnR_msg HGO.out HIM.out, List.drop_drop, HMG.out] at this
            rw [this]
            simp
          case measure => simp only [lenS]; omega

end Go.Proofs.Ythloffgebebijaa
