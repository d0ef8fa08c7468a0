/- BkT: the walk of tillerlaw's (*Book).task: an entry more for each list of limits, and one for the tasks. -/
import Derived.Test.YthloffgebebijaaGreatBkStep
import Derived.Test.YthloffgebebijaaGreatOwnL
import Derived.Test.YthloffgebebijaaGreatOwnT
import Derived.Test.YthloffgebebijaaGreatSetA
import Derived.Deep.RegionLaw
import Derived.Deep.DeepMust
namespace Go.Proofs.YthloffgebebijaaGreat
open Go.RowKit

theorem info_rL : (Tryz.prog.info? 66).map (fun i => (i.zero, i.size, i.bytes)) = some (some (.agg #[.slice none 0 0, .slice none 0 0, .slice none 0 0, .slice none 0 0, .int .i64 0]), 5, 104) := by kernel_rfl
theorem info_rT : (Tryz.prog.info? 68).map (fun i => (i.zero, i.size, i.bytes)) = some (some (.agg #[.slice none 0 0, .slice none 0 0, .slice none 0 0, .slice none 0 0, .int .i64 0]), 5, 104) := by kernel_rfl

/-- The blocks of a list of tasks, and of their limits. -/
def TBk (l : Value) (es : List (Int × Int × Value)) (k : Nat) : Prop := l.ownBlock = some k ∨ ∃ e ∈ es, e.2.2.ownBlock = some k

theorem owns_zero {w : World} {B : Nat} {e : TypeId} {size n : Nat} {v : Value} {xs : List Value} (h : w.ownsRow B e size v n xs) : w.ownsRow 0 e size v n xs := ⟨h.1, h.2.imp id fun ⟨g, cap, cur, x1, _, x3⟩ => ⟨g, cap, cur, x1, Nat.zero_le _, x3⟩⟩

/-- A piece of code that comes, on every way, to one frame and world of a family: a block, four slices and a world. -/
theorem wp_some14 {P : Program} {c : Code} {Q : Exit → Act → World → Prop} {a : Act} {w : World} (F : Nat → Option Addr → Nat → Nat → Option Addr → Nat → Nat → Option Addr → Nat → Nat → Option Addr → Nat → Nat → World → Prop)
    (A : Nat → Option Addr → Nat → Nat → Option Addr → Nat → Nat → Option Addr → Nat → Nat → Option Addr → Nat → Nat → World → Act) (W : Nat → Option Addr → Nat → Nat → Option Addr → Nat → Nat → Option Addr → Nat → Nat → Option Addr → Nat → Nat → World → World)
    (h : c.wp P (OnlyNormal fun a' w' => ∃ x a0 n0 k0 a1 n1 k1 a2 n2 k2 a3 n3 k3 z, F x a0 n0 k0 a1 n1 k1 a2 n2 k2 a3 n3 k3 z ∧ a' = A x a0 n0 k0 a1 n1 k1 a2 n2 k2 a3 n3 k3 z ∧ w' = W x a0 n0 k0 a1 n1 k1 a2 n2 k2 a3 n3 k3 z) a w)
    (h2 : ∀ x a0 n0 k0 a1 n1 k1 a2 n2 k2 a3 n3 k3 z, F x a0 n0 k0 a1 n1 k1 a2 n2 k2 a3 n3 k3 z → Q .normal (A x a0 n0 k0 a1 n1 k1 a2 n2 k2 a3 n3 k3 z) (W x a0 n0 k0 a1 n1 k1 a2 n2 k2 a3 n3 k3 z)) : c.wp P Q a w :=
  wp_mono h (OnlyNormal.imp (by rintro a' w' ⟨x, a0, n0, k0, a1, n1, k1, a2, n2, k2, a3, n3, k3, z, hf, rfl, rfl⟩; exact h2 x a0 n0 k0 a1 n1 k1 a2 n2 k2 a3 n3 k3 z hf))

theorem fin_b {w w1 : World} {lb : Option Nat} {e RT : TypeId} {size N H : Nat} {cs : List Value} {V : Array Value} (hH : H = w.heap.size) (hbe : Bears w1 (fun k => some k = lb ∨ w.heap.size ≤ k) e size cs (.agg V) N) (hg : w.drew.grownBy w1 lb) :
    Bears (w1.alloc (.cells V RT)) (fun k => some k = lb ∨ H ≤ k) e size cs (.agg V) N ∧ w.grownBy (w1.alloc (.cells V RT)) lb ∧ Blk (w1.alloc (.cells V RT)) w1.heap.size V RT ∧ H ≤ w1.heap.size := by
  subst hH
  have hz : w.heap.size ≤ w1.heap.size := hg.size
  refine ⟨?_, ⟨hg.os, hg.tape, hg.output, by simp; omega, fun k hk hn => (Below.heap_alloc w1 _ k (by omega)).trans (hg.block k hk hn)⟩, Blk.new w1 V RT, hz⟩
  obtain ⟨l0, l1, l2, l3, n0, n1, n2, n3, hr, ⟨m0, m1, m2, m3⟩, hn, hs⟩ := hbe
  exact ⟨l0, l1, l2, l3, n0, n1, n2, n3, hr, ⟨m0.alloc _, m1.alloc _, m2.alloc _, m3.alloc _⟩, hn, hs⟩

theorem fin_a {w w1 : World} {lb : Option Nat} {e RT : TypeId} {size N H : Nat} {cs : List Value} {v0 v1 v2 v3 v4 : Value} {Z : Array Value} {z0 z1 z2 z3 z4 : Value} (hH : H = w.heap.size) (hZ : Z = #[z0, z1, z2, z3, z4]) (hne : e ≠ RT) (hbe : Bears w1 (fun k => some k = lb ∨ (w.alloc (.cells Z RT)).drew.heap.size ≤ k) e size cs (.agg #[v0, v1, v2, v3, v4]) N) (hg : (w.alloc (.cells Z RT)).drew.grownBy w1 lb) (hX : Blk w1 w.heap.size Z RT) :
    Bears (((((w1.setCell ⟨w.heap.size, 0, none⟩ v0).setCell ⟨w.heap.size, 1, none⟩ v1).setCell ⟨w.heap.size, 2, none⟩ v2).setCell ⟨w.heap.size, 3, none⟩ v3).setCell ⟨w.heap.size, 4, none⟩ v4) (fun k => some k = lb ∨ H ≤ k) e size cs (.agg #[v0, v1, v2, v3, v4]) N ∧
      w.grownBy (((((w1.setCell ⟨w.heap.size, 0, none⟩ v0).setCell ⟨w.heap.size, 1, none⟩ v1).setCell ⟨w.heap.size, 2, none⟩ v2).setCell ⟨w.heap.size, 3, none⟩ v3).setCell ⟨w.heap.size, 4, none⟩ v4) lb ∧
      Blk (((((w1.setCell ⟨w.heap.size, 0, none⟩ v0).setCell ⟨w.heap.size, 1, none⟩ v1).setCell ⟨w.heap.size, 2, none⟩ v2).setCell ⟨w.heap.size, 3, none⟩ v3).setCell ⟨w.heap.size, 4, none⟩ v4) w.heap.size #[v0, v1, v2, v3, v4] RT ∧ H ≤ w.heap.size := by
  subst hH
  subst hZ
  have s1 := hX.set 0 v0
  have s2 := s1.set 1 v1
  have s3 := s2.set 2 v2
  have s4 := s3.set 3 v3
  have s5 := s4.set 4 v4
  have k5 := ((((KeepBut.set (B := 0) hX (Nat.zero_le _) v0 (o := 0)).trans (KeepBut.set (B := 0) s1 (Nat.zero_le _) v1 (o := 1))).trans (KeepBut.set (B := 0) s2 (Nat.zero_le _) v2 (o := 2))).trans (KeepBut.set (B := 0) s3 (Nat.zero_le _) v3 (o := 3))).trans (KeepBut.set (B := 0) s4 (Nat.zero_le _) v4 (o := 4))
  have hz : w.heap.size + 1 ≤ w1.heap.size := by have := hg.size; simpa using this
  refine ⟨?_, ?_, s5, Nat.le_refl _⟩
  · have hb : Bears w1 (fun k => some k = lb ∨ w.heap.size ≤ k) e size cs (.agg #[v0, v1, v2, v3, v4]) N := hbe.same (fun _ _ => rfl) (fun k hk => by
      rcases hk with h | h
      · exact .inl h
      · right; simp at h; omega)
    exact hb.keptBut k5 hne
  · have g0 : w.grownBy w1 lb := ⟨hg.os, hg.tape, hg.output, by omega, fun k hk hn => (hg.block k (by simp; omega) hn).trans (Below.heap_alloc w _ k hk)⟩
    exact grownBy_trans (grownBy_trans (grownBy_trans (grownBy_trans (grownBy_trans g0 (grownBy_set _ _ _ _) (.inr (.inr ⟨_, rfl, Nat.le_refl _⟩))) (grownBy_set _ _ _ _) (.inr (.inr ⟨_, rfl, Nat.le_refl _⟩))) (grownBy_set _ _ _ _) (.inr (.inr ⟨_, rfl, Nat.le_refl _⟩))) (grownBy_set _ _ _ _) (.inr (.inr ⟨_, rfl, Nat.le_refl _⟩))) (grownBy_set _ _ _ _) (.inr (.inr ⟨_, rfl, Nat.le_refl _⟩))

set_option maxRecDepth 100000 in
set_option maxHeartbeats 3200000 in
theorem bookT_any (S : Nat → Prop) (B W : Nat) (ps : Value) (nb ni ne nl nt : Nat) (l : Value) (es : List (Int × Int × Value)) (w : World) (h : BookAt w S B W ps nb ni ne nl nt) (hB : B ≤ w.heap.size) (ho : w.ownsRow B 55 3 l es.length (flat3 es)) (hl : ∀ k, l.ownBlock = some k → ¬ S k)
    (hes : ∀ e ∈ es, ∃ n xs, w.ownsRow B 52 2 e.2.2 n xs ∧ n ≤ 1000000 ∧ ∀ k, e.2.2.ownBlock = some k → ¬ S k) (hap : Apart es) (hn : es.length ≤ 1000000) (hnl : nl + es.length ≤ 1000000000) (hnt : nt ≤ 1000000000) :
    Calls Tryz.prog 32 #[.pointer (some ⟨W, 1, none⟩), l] w fun e w' => e = .returned (.tuple #[]) ∧ ∃ S', BookAt w' S' B W ps nb ni ne (nl + es.length) (nt + 1) ∧ (∀ k, S k → S' k) ∧ (∀ k, S' k → S k ∨ TBk l es k ∨ w.heap.size ≤ k) ∧ Fr (fun k => S k ∨ TBk l es k) w w' := by
  have HBK := hide h
  have HO := hide ho
  have HL := hide hl
  have HES := hide hes
  have HAP := hide hap
  have HLO := hide (World.ownsRow.lt ho)
  have HS0 : Hid (∀ k, S k → B ≤ k ∧ k < w.heap.size) := h.1
  have HSW : Hid (S W) := h.2.1
  obtain ⟨i0, hi, hz0, hzs, hzb⟩ := info_parts info_rL
  have HI := hide (And.intro hi (And.intro hz0 (And.intro hzs hzb)))
  obtain ⟨i1, hi1, hy0, hys, hyb⟩ := info_parts info_rT
  have HI1 := hide (And.intro hi1 (And.intro hy0 (And.intro hys hyb)))
  obtain ⟨la, lc, hle⟩ := owns_slice ho
  subst hle
  have HLT : Hid (∀ g, (Value.slice la es.length lc).ownBlock = some g → ∃ cur, Blk w g cur 55) := by
    intro g hg
    rcases ho.2 with ⟨he, _⟩ | ⟨g', cap, cur, he, _, hh, _⟩
    · rw [he] at hg; simp [Value.ownBlock] at hg
    · rw [he] at hg; simp only [Value.ownBlock, Option.some.injEq] at hg; subst hg; exact ⟨cur, hh⟩
  have HET : Hid (∀ e ∈ es, ∀ g, e.2.2.ownBlock = some g → ∃ cur, Blk w g cur 52) := by
    intro e he g hg
    obtain ⟨n, xs, ho, _⟩ := hes e he
    rcases ho.2 with ⟨h0, _⟩ | ⟨g', cap, cur, h0, _, hh, _⟩
    · rw [h0] at hg; simp [Value.ownBlock] at hg
    · rw [h0] at hg; simp only [Value.ownBlock, Option.some.injEq] at hg; subst hg; exact ⟨cur, hh⟩
  generalize hN : es.length = n at *
  have HN := hide hN
  clear hN h ho hl hes hap hi hz0 hzs hzb hi1 hy0 hys hyb
  go_enter Tryz.func32, Tryz.ntmps32
  go_wp2_with fail
  go_loopw [4] (fun i wr => ∃ (k : Nat) (S1 : Nat → Prop), i = .int .i64 k ∧ k ≤ n ∧ BookAt wr S1 B W ps nb ni ne (nl + k) nt ∧ (∀ q, S q → S1 q) ∧ (∀ q, S1 q → S q ∨ (∃ j e, j < k ∧ es[j]? = some e ∧ e.2.2.ownBlock = some q) ∨ w.heap.size ≤ q) ∧ Fr (fun q => S q ∨ ∃ j e, j < k ∧ es[j]? = some e ∧ e.2.2.ownBlock = some q) w wr) (fun i _ => n - (intOf i).toNat)
  case atStart => exact ⟨0, S, rfl, Nat.zero_le _, HBK.out, fun _ => id, fun q hq => .inl hq, Fr.refl _ _⟩
  case round =>
    obtain ⟨k, S1, rfl, hk, hbk, hs1, hs2, hfr⟩ := hrel
    have HS1 := hide hs1; have HS2 := hide hs2; have HFR := hide hfr
    have hsz := hfr.size
    have hlk : ∀ g, (Value.slice la n lc).ownBlock = some g → wr.heap[g]? = w.heap[g]? := fun g hg => HFR.out.block g (HLO.out g hg).2 (by
      rintro (h | ⟨j, e, hj, he, hb⟩)
      · exact HL.out g hg h
      · obtain ⟨c1, h1⟩ := HLT.out g hg
        obtain ⟨c2, h2⟩ := HET.out e (List.mem_of_getElem? he) g hb
        exact absurd (h1.inj h2).2 (by decide))
    have HOr := hide (owns_same HO.out hlk)
    obtain ⟨hS, hSW, vb, vi, ve, vl, vt, hW, Eb, Ei, Ee, El, Et⟩ := hbk
    have HS := hide hS
    have hwlt := hW.lt
    have HW := hide hW
    have HEb := hide Eb; have HEi := hide Ei; have HEe := hide Ee; have HEl := hide El; have HEt := hide Et
    have HSW1 := hide hSW
    clear hs1 hs2 hfr hlk hS
    by_cases hlt : k < n
    · obtain ⟨x, hx⟩ := get_of_lt (l := es) (k := k) (by rw [HN.out]; exact hlt)
      obtain ⟨m, xs, hox, hm, hxS⟩ := HES.out x (List.mem_of_getElem? hx)
      have hxk : ∀ g, x.2.2.ownBlock = some g → wr.heap[g]? = w.heap[g]? := fun g hg => HFR.out.block g (World.ownsRow.lt hox g hg).2 (by
        rintro (h | ⟨j, e, hj, he, hb⟩)
        · exact hxS g hg h
        · have hpw := HAP.out
          obtain ⟨q1, rfl⟩ := List.getElem?_eq_some_iff.1 he
          obtain ⟨q2, rfl⟩ := List.getElem?_eq_some_iff.1 hx
          exact List.pairwise_iff_getElem.1 hpw j k q1 q2 hj (hb.trans hg.symm))
      have hoxr := owns_same hox hxk
      have HXNS : Hid (∀ g, x.2.2.ownBlock = some g → ¬ S1 g) := by
        intro g hg h1
        rcases HS2.out g h1 with h | ⟨j, e, hj, he, hb⟩ | h
        · exact hxS g hg h
        · have hpw := HAP.out
          obtain ⟨q1, rfl⟩ := List.getElem?_eq_some_iff.1 he
          obtain ⟨q2, rfl⟩ := List.getElem?_eq_some_iff.1 hx
          exact List.pairwise_iff_getElem.1 hpw j k q1 q2 hj (hb.trans hg.symm)
        · have := (World.ownsRow.lt hox g hg).2; omega
      have HXB : Hid (∀ g, x.2.2.ownBlock = some g → B ≤ g ∧ g < wr.heap.size) := World.ownsRow.lt hoxr
      have HX := hide hx
      obtain ⟨i, s, lv⟩ := x
      simp only at hox hoxr HXNS HXB hxS
      obtain ⟨xa, xc, hlv⟩ := owns_slice hoxr
      subst hlv
      obtain ⟨es0, o1, o2, o3, o4⟩ := El
      have HE0 := hide (And.intro o1 (And.intro o2 (And.intro o3 o4)))
      obtain ⟨va, vc, hvl⟩ := HEl.out.slice
      subst hvl
      generalize hNL : nl + k = N at *
      have HNL := hide hNL
      have hN9 : N ≤ 1000000000 := by omega
      have HOWNb := hide (ownLimits_any (.slice xa m xc) m N xs wr.drew (owns_zero hoxr) hm hN9)
      have HOWNa := hide (ownLimits_any (.slice xa m xc) m N xs (wr.alloc (.cells #[.slice none 0 0, .slice none 0 0, .slice none 0 0, .slice none 0 0, .int .i64 0] 66)).drew (owns_zero (hoxr.alloc _)) hm hN9)
      -- the list of tasks
      obtain ⟨g, hlg⟩ : ∃ g, la = some ⟨g, 0, none⟩ ∧ g < wr.heap.size ∧ wr.cell? ⟨g, k * 3 + 2, none⟩ = some (.slice xa m xc) := by
        have ho := HOr.out
        have hf := flat3_get es k _ hx
        rcases ho.2 with ⟨_, h0⟩ | ⟨g, cap, cur, he, hg, hh, hcap, hcm, hcs, ht⟩
        · omega
        · obtain ⟨rfl, rfl⟩ : la = some ⟨g, 0, none⟩ ∧ lc = cap := by simpa using he
          refine ⟨g, rfl, lt_of_block hh, ?_⟩
          rw [cell_of_row wr g _ cur _ (0, 0) hh]
          have h2 : (cur.toList.take (n * 3))[k * 3 + 2]? = (flat3 es)[k * 3 + 2]? := by rw [ht]
          rw [List.getElem?_take, if_pos (by omega), hf.2.2] at h2
          simpa using h2
      obtain ⟨rfl, hgw, hlc⟩ := hlg
      have c4 : wr.cell? ⟨W, 4, none⟩ = some (.slice va N vc) := HW.out.cell 4
      clear hNL hxk hox hoxr hx o1 o2 o3 o4 hxS
      obtain ⟨H0, hH0⟩ : ∃ H, H = wr.heap.size := ⟨_, rfl⟩
      have HH0 := hide hH0
      clear hH0
      go_wp2_with fail
      apply wp_some14 (fun X a0 n0 k0 a1 n1 k1 a2 n2 k2 a3 n3 k3 w2 => Bears w2 (fun k => some k = (Value.slice xa m xc).ownBlock ∨ H0 ≤ k) 52 2 (markL N) (.agg #[.slice a0 n0 k0, .slice a1 n1 k1, .slice a2 n2 k2, .slice a3 n3 k3, .int .i64 N]) N ∧ wr.grownBy w2 (Value.slice xa m xc).ownBlock ∧ Blk w2 X #[.slice a0 n0 k0, .slice a1 n1 k1, .slice a2 n2 k2, .slice a3 n3 k3, .int .i64 N] 66 ∧ H0 ≤ X)
      case h =>
        go_region_with (first
          | (go_at_call 60; refine HOWNa.out.mono ?_; rintro e w1 ⟨r, rfl, hbe, hg⟩; have HBE := hide hbe; have hX1 := ((Blk.new wr #[.slice none 0 0, .slice none 0 0, .slice none 0 0, .slice none 0 0, .int .i64 0] 66).drew).grownRow hg (fun e => by have := (HXB.out _ e).2; omega); obtain ⟨L0, L1, L2, L3, n0, n1, n2, n3, rfl, ⟨b0, b1, b2, b3⟩, -, -⟩ := hbe; obtain ⟨a0, k0, rfl⟩ := b0.slice; obtain ⟨a1, k1, rfl⟩ := b1.slice; obtain ⟨a2, k2, rfl⟩ := b2.slice; obtain ⟨a3, k3, rfl⟩ := b3.slice; clear b0 b1 b2 b3; have q0 : w1.cell? ⟨wr.heap.size, 0, none⟩ = some (.slice none 0 0) := hX1.cell 0; have q1 : w1.cell? ⟨wr.heap.size, 1, none⟩ = some (.slice none 0 0) := hX1.cell 1; have q2 : w1.cell? ⟨wr.heap.size, 2, none⟩ = some (.slice none 0 0) := hX1.cell 2; have q3 : w1.cell? ⟨wr.heap.size, 3, none⟩ = some (.slice none 0 0) := hX1.cell 3; have q4 : w1.cell? ⟨wr.heap.size, 4, none⟩ = some (.int .i64 0) := hX1.cell 4; have q0f := hX1.free 0; have q1f := hX1.free 1; have q2f := hX1.free 2; have q3f := hX1.free 3; have q4f := hX1.free 4; have HX1 := hide hX1; have HGA := hide hg; clear hX1 hg)
          | (go_at_call 60; refine HOWNb.out.mono ?_; rintro e w1 ⟨r, rfl, hbe, hg⟩; have HBE := hide hbe; obtain ⟨L0, L1, L2, L3, n0, n1, n2, n3, rfl, ⟨b0, b1, b2, b3⟩, -, -⟩ := hbe; obtain ⟨a0, k0, rfl⟩ := b0.slice; obtain ⟨a1, k1, rfl⟩ := b1.slice; obtain ⟨a2, k2, rfl⟩ := b2.slice; obtain ⟨a3, k3, rfl⟩ := b3.slice; clear b0 b1 b2 b3; have HGB := hide hg; clear hg))
        all_goals first
          | (have f := fin_a HH0.out rfl (by decide) HBE.out HGA.out HX1.out
             clear q0 q1 q2 q3 q4 q0f q1f q2f q3f q4f
             generalize hw2 : (((((w1.setCell ⟨wr.heap.size, 0, none⟩ (.slice a0 n0 k0)).setCell ⟨wr.heap.size, 1, none⟩ (.slice a1 n1 k1)).setCell ⟨wr.heap.size, 2, none⟩ (.slice a2 n2 k2)).setCell ⟨wr.heap.size, 3, none⟩ (.slice a3 n3 k3)).setCell ⟨wr.heap.size, 4, none⟩ (.int .i64 N)) = w2 at *
             clear hw2
             generalize wr.heap.size = X at *
             exact ⟨X, a0, n0, k0, a1, n1, k1, a2, n2, k2, a3, n3, k3, w2, f, rfl, rfl⟩)
          | (have f := fin_b (RT := 66) HH0.out HBE.out HGB.out
             generalize hw2 : (w1.alloc (.cells #[.slice a0 n0 k0, .slice a1 n1 k1, .slice a2 n2 k2, .slice a3 n3 k3, .int .i64 N] 66)) = w2 at *
             clear hw2
             generalize w1.heap.size = X at *
             exact ⟨X, a0, n0, k0, a1, n1, k1, a2, n2, k2, a3, n3, k3, w2, f, rfl, rfl⟩)
      rintro X a0 n0 k0 a1 n1 k1 a2 n2 k2 a3 n3 k3 w2 ⟨hbe, hg, hX, hXl⟩
      rw [HH0.out] at hbe hXl
      clear hlc c4
      have HBE := hide hbe
      have HG := hide hg
      have HXB2 := hide hX
      have hz2 := hg.size
      have hXlt := hX.lt
      have hSk : Hid (∀ q, S1 q → w2.heap[q]? = wr.heap[q]?) := fun q hq => HG.out.block q (HS.out q hq).2 (fun e => HXNS.out q e.symm hq)
      have c4 : w2.cell? ⟨W, 4, none⟩ = some (.slice va N vc) := (show Blk _ W _ _ from (hSk.out W HSW1.out).trans HW.out).cell 4
      have c4f : w2.frozen? ⟨W, 4, none⟩ = false := (show Blk _ W _ _ from (hSk.out W HSW1.out).trans HW.out).free 4
      have hwl2 : W < w2.heap.size := by omega
      have x0 : w2.cell? ⟨X, 0, none⟩ = some (.slice a0 n0 k0) := hX.cell 0
      have x1 : w2.cell? ⟨X, 1, none⟩ = some (.slice a1 n1 k1) := hX.cell 1
      have x2 : w2.cell? ⟨X, 2, none⟩ = some (.slice a2 n2 k2) := hX.cell 2
      have x3 : w2.cell? ⟨X, 3, none⟩ = some (.slice a3 n3 k3) := hX.cell 3
      have x4 : w2.cell? ⟨X, 4, none⟩ = some (.int .i64 N) := hX.cell 4
      clear hbe hg hX
      have hSb : Hid (∀ q, S1 q → (w2.alloc (.cells #[.slice a0 n0 k0, .slice a1 n1 k1, .slice a2 n2 k2, .slice a3 n3 k3, .int .i64 N] 66)).drew.heap[q]? = wr.heap[q]?) := fun q hq => (Below.heap_alloc w2 _ q (by have := (HS.out q hq).2; omega)).trans (hSk.out q hq)
      have HO : Hid ((w2.alloc (.cells #[.slice a0 n0 k0, .slice a1 n1 k1, .slice a2 n2 k2, .slice a3 n3 k3, .int .i64 N] 66)).drew.ownsRow B 66 5 (.slice va N vc) N es0.flatten) := owns_same HE0.out.1 fun q hq => hSb.out q (HE0.out.2.2.1 q hq)
      have HNEW : Hid (∀ (j : Nat) (u : Value), [.slice a0 n0 k0, .slice a1 n1 k1, .slice a2 n2 k2, .slice a3 n3 k3, Value.int .i64 N][j]? = some u → (w2.alloc (.cells #[.slice a0 n0 k0, .slice a1 n1 k1, .slice a2 n2 k2, .slice a3 n3 k3, .int .i64 N] 66)).drew.cell? ((⟨w2.heap.size, 0, none⟩ : Addr).add j) = some u) := by
        intro j u hj
        exact new_cells w2 [.slice a0 n0 k0, .slice a1 n1 k1, .slice a2 n2 k2, .slice a3 n3 k3, Value.int .i64 N] 66 w2.heap.size rfl j u hj
      have HONE : Hid (∀ u ∈ [Value.slice a0 n0 k0, .slice a1 n1 k1, .slice a2 n2 k2, .slice a3 n3 k3, Value.int .i64 N], u.oneCell' = true) := by
        intro u hu
        simp at hu
        rcases hu with rfl | rfl | rfl | rfl | rfl <;> rfl
      have HBW : Hid (Blk (w2.alloc (.cells #[.slice a0 n0 k0, .slice a1 n1 k1, .slice a2 n2 k2, .slice a3 n3 k3, .int .i64 N] 66)).drew W #[ps, vb, vi, ve, .slice va N vc, vt] 36) := (hSb.out W HSW1.out).trans HW.out
      go_wp2_with fail
      apply wp_some3 (fun (ya : Option Addr) (yc : Nat) (w4 : World) => w4.ownsRow B 66 5 (.slice ya (N + 1) yc) (N + 1) (es0.flatten ++ [.slice a0 n0 k0, .slice a1 n1 k1, .slice a2 n2 k2, .slice a3 n3 k3, Value.int .i64 N]) ∧ (w2.alloc (.cells #[.slice a0 n0 k0, .slice a1 n1 k1, .slice a2 n2 k2, .slice a3 n3 k3, .int .i64 N] 66)).drew.grownBy w4 (Value.slice va N vc).ownBlock ∧ ((Value.slice ya (N + 1) yc).ownBlock = (Value.slice va N vc).ownBlock ∨ (Value.slice ya (N + 1) yc).ownBlock = some (w2.alloc (.cells #[.slice a0 n0 k0, .slice a1 n1 k1, .slice a2 n2 k2, .slice a3 n3 k3, .int .i64 N] 66)).drew.heap.size))
      case h =>
        go_region_law (first | (refine step_append_own rfl (.tmp 28) (.tmp 30) 31 rfl B 66 i0 (.agg #[.slice none 0 0, .slice none 0 0, .slice none 0 0, .slice none 0 0, .int .i64 0]) 5 104 Tryz.underlying31 HI.out.1 HI.out.2.1 HI.out.2.2.1 HI.out.2.2.2 rfl (by decide) (.slice va N vc) N es0.flatten (by simp [Act.eval]) HO.out ⟨w2.heap.size, 0, none⟩ 1 1 [.slice a0 n0 k0, .slice a1 n1 k1, .slice a2 n2 k2, .slice a3 n3 k3, .int .i64 N] (by simp [Act.eval]) rfl HNEW.out HONE.out (by decide) (by unfold maxLen; omega) (by omega) (by simp; omega) ?_; intro v1 w4 hown hgrow hat; obtain ⟨ya, yc, rfl⟩ := owns_slice hown; have hbw4 := HBW.out.kept (KeepBut.grown hgrow HO.out (Nat.le_refl _)) (by decide); have d1 : w4.cell? ⟨W, 4, none⟩ = some (.slice va N vc) := hbw4.cell 4; have d1f := hbw4.free 4; have HOW := hide hown; have HGR := hide hgrow; have HAT := hide hat; clear hown hgrow hat hbw4))
        all_goals exact ⟨ya, yc, w4, ⟨HOW.out, HGR.out, HAT.out⟩, rfl, rfl⟩
      rintro ya yc w4 ⟨how, hgr, hat⟩
      have HH3 : Hid (Below w2.heap.size w2 (w2.alloc (.cells #[.slice a0 n0 k0, .slice a1 n1 k1, .slice a2 n2 k2, .slice a3 n3 k3, .int .i64 N] 66)).drew) := ((Below.refl _ _).alloc (Nat.le_refl _) _).drew
      have HOW := hide how; have HGR := hide hgr; have HAT := hide hat
      clear how hgr hat c4 c4f x0 x1 x2 x3 x4

      have HPOST := hide (book_postL HS.out HSW1.out (by omega) HW.out HEb.out HEi.out HEe.out HEt.out HE0.out.1 HE0.out.2.1 HE0.out.2.2.1 HE0.out.2.2.2 HXNS.out HXB.out HBE.out HG.out HH3.out HOW.out HGR.out HAT.out)
      go_wp2
      go_roundw
      case rel =>
        obtain ⟨S2, p1, p2, p3, p4⟩ := HPOST.out
        have hNe : N + 1 = nl + (k + 1) := by have := HNL.out; omega
        refine ⟨k + 1, S2, by go_num, by omega, by rw [← hNe]; exact p1, fun q hq => p2 q (HS1.out q hq), fun q hq => ?_, ?_⟩
        · rcases p3 q hq with h | h | h
          · rcases HS2.out q h with h | ⟨j, e, hj, he, hb⟩ | h
            · exact .inl h
            · exact .inr (.inl ⟨j, e, by omega, he, hb⟩)
            · exact .inr (.inr h)
          · exact .inr (.inl ⟨k, _, by omega, HX.out, h⟩)
          · exact .inr (.inr (by omega))
        · refine (HFR.out.mono (Y := fun q => S q ∨ ∃ j e, j < k + 1 ∧ es[j]? = some e ∧ e.2.2.ownBlock = some q) ?_).trans (by simpa using p4) ?_
          · rintro q _ (h | ⟨j, e, hj, he, hb⟩)
            · exact .inl h
            · exact .inr ⟨j, e, by omega, he, hb⟩
          · intro q hq h
            rcases h with h | h
            · rcases HS2.out q h with h | ⟨j, e, hj, he, hb⟩ | h
              · exact .inl h
              · exact .inr ⟨j, e, by omega, he, hb⟩
              · omega
            · exact .inr ⟨k, _, by omega, HX.out, h⟩
      case measure => simp [intOf]; omega
    · obtain rfl : k = n := by omega
      have HLNS : Hid (∀ g, (Value.slice la k lc).ownBlock = some g → ¬ S1 g) := by
        intro g hg h1
        rcases HS2.out g h1 with h | ⟨j, e, hj, he, hb⟩ | h
        · exact HL.out g hg h
        · obtain ⟨c1, q1⟩ := HLT.out g hg
          obtain ⟨c2, q2⟩ := HET.out e (List.mem_of_getElem? he) g hb
          exact absurd (q1.inj q2).2 (by decide)
        · have := (HLO.out g hg).2; omega
      have HLB : Hid (∀ g, (Value.slice la k lc).ownBlock = some g → B ≤ g ∧ g < wr.heap.size) := World.ownsRow.lt HOr.out
      obtain ⟨es0, o1, o2, o3, o4⟩ := Et
      have HE0 := hide (And.intro o1 (And.intro o2 (And.intro o3 o4)))
      obtain ⟨va, vc, hvt⟩ := HEt.out.slice
      subst hvt
      have HOWN := hide (ownTasks_any (.slice la k lc) k nt (flat3 es) wr (owns_zero HOr.out) hn hnt)
      have c5 : wr.cell? ⟨W, 5, none⟩ = some (.slice va nt vc) := HW.out.cell 5
      clear o1 o2 o3 o4
      go_wp2_with fail
      refine HOWN.out.mono ?_
      rintro e w1 ⟨r, rfl, hbe, hg⟩
      obtain ⟨L0, L1, L2, L3, n0, n1, n2, n3, hr, ⟨b0, b1, b2, b3⟩, hbn, hbs⟩ := hbe
      subst hr
      obtain ⟨a0, k0, rfl⟩ := b0.slice
      obtain ⟨a1, k1, rfl⟩ := b1.slice
      obtain ⟨a2, k2, rfl⟩ := b2.slice
      obtain ⟨a3, k3, rfl⟩ := b3.slice
      have HBE1 : Hid (Bears w1 (fun q => some q = (Value.slice la k lc).ownBlock ∨ wr.heap.size ≤ q) 55 3 (markT nt) (.agg #[.slice a0 n0 k0, .slice a1 n1 k1, .slice a2 n2 k2, .slice a3 n3 k3, .int .i64 nt]) nt) := ⟨_, _, _, _, _, _, _, _, rfl, ⟨b0, b1, b2, b3⟩, hbn, hbs⟩
      have HG1 := hide hg
      clear b0 b1 b2 b3 hbn hbs hg c5
      have f := fin_b (w := wr) (RT := 68) (H := wr.heap.size) rfl HBE1.out ⟨HG1.out.os, HG1.out.tape, HG1.out.output, HG1.out.size, HG1.out.block⟩
      have HF := hide f
      clear f
      simp only []
      go_wp2_with fail
      generalize hw2 : w1.alloc (.cells #[.slice a0 n0 k0, .slice a1 n1 k1, .slice a2 n2 k2, .slice a3 n3 k3, .int .i64 nt] 68) = w2 at *
      generalize hXe : w1.heap.size = X at *
      clear hw2 hXe
      obtain ⟨hbe, hg, hX, hXl⟩ := HF.out
      have HBE := hide hbe
      have HG := hide hg
      have HXB2 := hide hX
      have hz2 := hg.size
      have hXlt := hX.lt
      have hSk : Hid (∀ q, S1 q → w2.heap[q]? = wr.heap[q]?) := fun q hq => HG.out.block q (HS.out q hq).2 (fun e => HLNS.out q e.symm hq)
      have c4 : w2.cell? ⟨W, 5, none⟩ = some (.slice va nt vc) := (show Blk _ W _ _ from (hSk.out W HSW1.out).trans HW.out).cell 5
      have c4f : w2.frozen? ⟨W, 5, none⟩ = false := (show Blk _ W _ _ from (hSk.out W HSW1.out).trans HW.out).free 5
      have hwl2 : W < w2.heap.size := by omega
      have x0 : w2.cell? ⟨X, 0, none⟩ = some (.slice a0 n0 k0) := hX.cell 0
      have x1 : w2.cell? ⟨X, 1, none⟩ = some (.slice a1 n1 k1) := hX.cell 1
      have x2 : w2.cell? ⟨X, 2, none⟩ = some (.slice a2 n2 k2) := hX.cell 2
      have x3 : w2.cell? ⟨X, 3, none⟩ = some (.slice a3 n3 k3) := hX.cell 3
      have x4 : w2.cell? ⟨X, 4, none⟩ = some (.int .i64 nt) := hX.cell 4
      clear hbe hg hX
      have hSb : Hid (∀ q, S1 q → (w2.alloc (.cells #[.slice a0 n0 k0, .slice a1 n1 k1, .slice a2 n2 k2, .slice a3 n3 k3, .int .i64 nt] 68)).drew.heap[q]? = wr.heap[q]?) := fun q hq => (Below.heap_alloc w2 _ q (by have := (HS.out q hq).2; omega)).trans (hSk.out q hq)
      have HOO : Hid ((w2.alloc (.cells #[.slice a0 n0 k0, .slice a1 n1 k1, .slice a2 n2 k2, .slice a3 n3 k3, .int .i64 nt] 68)).drew.ownsRow B 68 5 (.slice va nt vc) nt es0.flatten) := owns_same HE0.out.1 fun q hq => hSb.out q (HE0.out.2.2.1 q hq)
      have HNEW : Hid (∀ (j : Nat) (u : Value), [.slice a0 n0 k0, .slice a1 n1 k1, .slice a2 n2 k2, .slice a3 n3 k3, Value.int .i64 nt][j]? = some u → (w2.alloc (.cells #[.slice a0 n0 k0, .slice a1 n1 k1, .slice a2 n2 k2, .slice a3 n3 k3, .int .i64 nt] 68)).drew.cell? ((⟨w2.heap.size, 0, none⟩ : Addr).add j) = some u) := by
        intro j u hj
        exact new_cells w2 [.slice a0 n0 k0, .slice a1 n1 k1, .slice a2 n2 k2, .slice a3 n3 k3, Value.int .i64 nt] 68 w2.heap.size rfl j u hj
      have HONE : Hid (∀ u ∈ [Value.slice a0 n0 k0, .slice a1 n1 k1, .slice a2 n2 k2, .slice a3 n3 k3, Value.int .i64 nt], u.oneCell' = true) := by
        intro u hu
        simp at hu
        rcases hu with rfl | rfl | rfl | rfl | rfl <;> rfl
      have HBW : Hid (Blk (w2.alloc (.cells #[.slice a0 n0 k0, .slice a1 n1 k1, .slice a2 n2 k2, .slice a3 n3 k3, .int .i64 nt] 68)).drew W #[ps, vb, vi, ve, vl, .slice va nt vc] 36) := (hSb.out W HSW1.out).trans HW.out
      try (go_wp2_with fail)
      apply wp_some3 (fun (ya : Option Addr) (yc : Nat) (w4 : World) => w4.ownsRow B 68 5 (.slice ya (nt + 1) yc) (nt + 1) (es0.flatten ++ [.slice a0 n0 k0, .slice a1 n1 k1, .slice a2 n2 k2, .slice a3 n3 k3, Value.int .i64 nt]) ∧ (w2.alloc (.cells #[.slice a0 n0 k0, .slice a1 n1 k1, .slice a2 n2 k2, .slice a3 n3 k3, .int .i64 nt] 68)).drew.grownBy w4 (Value.slice va nt vc).ownBlock ∧ ((Value.slice ya (nt + 1) yc).ownBlock = (Value.slice va nt vc).ownBlock ∨ (Value.slice ya (nt + 1) yc).ownBlock = some (w2.alloc (.cells #[.slice a0 n0 k0, .slice a1 n1 k1, .slice a2 n2 k2, .slice a3 n3 k3, .int .i64 nt] 68)).drew.heap.size))
      case h =>
        go_region_law (first | (refine step_append_own rfl (.tmp 45) (.tmp 47) 32 rfl B 68 i1 (.agg #[.slice none 0 0, .slice none 0 0, .slice none 0 0, .slice none 0 0, .int .i64 0]) 5 104 Tryz.underlying32 HI1.out.1 HI1.out.2.1 HI1.out.2.2.1 HI1.out.2.2.2 rfl (by decide) (.slice va nt vc) nt es0.flatten (by simp [Act.eval]) HOO.out ⟨w2.heap.size, 0, none⟩ 1 1 [.slice a0 n0 k0, .slice a1 n1 k1, .slice a2 n2 k2, .slice a3 n3 k3, .int .i64 nt] (by simp [Act.eval]) rfl HNEW.out HONE.out (by decide) (by unfold maxLen; omega) (by omega) (by simp; omega) ?_; intro v1 w4 hown hgrow hat; obtain ⟨ya, yc, rfl⟩ := owns_slice hown; have hbw4 := HBW.out.kept (KeepBut.grown hgrow HOO.out (Nat.le_refl _)) (by decide); have d1 : w4.cell? ⟨W, 5, none⟩ = some (.slice va nt vc) := hbw4.cell 5; have d1f := hbw4.free 5; have HOW := hide hown; have HGR := hide hgrow; have HAT := hide hat; clear hown hgrow hat hbw4))
        all_goals exact ⟨ya, yc, w4, ⟨HOW.out, HGR.out, HAT.out⟩, rfl, rfl⟩
      rintro ya yc w4 ⟨how, hgr, hat⟩
      have HH3 : Hid (Below w2.heap.size w2 (w2.alloc (.cells #[.slice a0 n0 k0, .slice a1 n1 k1, .slice a2 n2 k2, .slice a3 n3 k3, .int .i64 nt] 68)).drew) := ((Below.refl _ _).alloc (Nat.le_refl _) _).drew
      have HOW := hide how; have HGR := hide hgr; have HAT := hide hat
      clear how hgr hat c4 c4f x0 x1 x2 x3 x4

      have HPOST := hide (book_postT HS.out HSW1.out (by omega) HW.out HEb.out HEi.out HEe.out HEl.out HE0.out.1 HE0.out.2.1 HE0.out.2.2.1 HE0.out.2.2.2 HLNS.out HLB.out HBE.out HG.out HH3.out HOW.out HGR.out HAT.out)
      go_wp2
      go_end0
      obtain ⟨S2, p1, p2, p3, p4⟩ := HPOST.out
      refine ⟨rfl, S2, p1, fun q hq => p2 q (HS1.out q hq), fun q hq => ?_, ?_⟩
      · rcases p3 q hq with h | h | h
        · rcases HS2.out q h with h | ⟨j, e, hj, he, hb⟩ | h
          · exact .inl h
          · exact .inr (.inl (.inr ⟨e, List.mem_of_getElem? he, hb⟩))
          · exact .inr (.inr h)
        · exact .inr (.inl (.inl h))
        · exact .inr (.inr (by omega))
      · refine (HFR.out.mono (Y := fun q => S q ∨ TBk (.slice la k lc) es q) ?_).trans p4 ?_
        · rintro q _ (h | ⟨j, e, hj, he, hb⟩)
          · exact .inl h
          · exact .inr (.inr ⟨e, List.mem_of_getElem? he, hb⟩)
        · intro q hq h
          rcases h with h | h
          · rcases HS2.out q h with h | ⟨j, e, hj, he, hb⟩ | h
            · exact .inl h
            · exact .inr (.inr ⟨e, List.mem_of_getElem? he, hb⟩)
            · omega
          · exact .inr (.inl h)

end Go.Proofs.YthloffgebebijaaGreat
