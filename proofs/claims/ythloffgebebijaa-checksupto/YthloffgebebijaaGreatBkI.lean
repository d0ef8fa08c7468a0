/- BkI: the walk of tillerlaw's (*Book).int: the book has one entry more. -/
import Derived.Test.YthloffgebebijaaGreatBookB
import Derived.Test.YthloffgebebijaaGreatOwnI
import Derived.Deep.RegionLaw
import Derived.Deep.DeepMust
namespace Go.Proofs.YthloffgebebijaaGreat
open Go.RowKit

theorem info_rI : (Tryz.prog.info? 61).map (fun i => (i.zero, i.size, i.bytes)) = some (some (.agg #[.slice none 0 0, .slice none 0 0, .slice none 0 0, .slice none 0 0, .int .i64 0]), 5, 104) := by kernel_rfl

set_option maxRecDepth 100000 in
set_option maxHeartbeats 1600000 in
theorem bookI_any (S : Nat → Prop) (B W : Nat) (ps : Value) (nb ni ne nl nt : Nat) (l : Value) (n : Nat) (xs : List Value) (w : World) (h : BookAt w S B W ps nb ni ne nl nt) (hB : B ≤ w.heap.size) (ho : w.ownsRow B 3 1 l n xs) (hl : ∀ k, l.ownBlock = some k → ¬ S k) (hn : n ≤ 1000000) (hnn : ni ≤ 1000000000) :
    Calls Tryz.prog 35 #[.pointer (some ⟨W, 1, none⟩), l] w fun e w' => e = .returned (.tuple #[]) ∧ ∃ S', BookAt w' S' B W ps nb (ni + 1) ne nl nt ∧ (∀ k, S k → S' k) ∧ (∀ k, S' k → S k ∨ l.ownBlock = some k ∨ w.heap.size ≤ k) ∧ Fr (fun k => S k ∨ l.ownBlock = some k) w w' := by
  have HBK := hide h
  have hlown := World.ownsRow.lt ho
  obtain ⟨hS, hSW, vb, vi, ve, vl, vt, hW, eb, ei, ee, el, et⟩ := h
  have HW := hide hW
  have hwlt := hW.lt
  have HSW := hide hSW
  have HS := hide hS
  have HL := hide hl
  have HLO := hide hlown
  obtain ⟨i0, hi, hz0, hzs, hzb⟩ := info_parts info_rI
  have HI := hide (And.intro hi (And.intro hz0 (And.intro hzs hzb)))
  have ho0 : w.ownsRow 0 3 1 l n xs := ⟨ho.1, ho.2.imp id fun ⟨g, cap, cur, x1, _, x3⟩ => ⟨g, cap, cur, x1, Nat.zero_le _, x3⟩⟩
  have HOWN := hide (ownInts_any l n ni xs w ho0 hn hnn)
  have c1 : w.cell? ⟨W, 2, none⟩ = some vi := hW.cell 2
  obtain ⟨va, vc, hve⟩ := ei.slice
  obtain ⟨la, lc, hle⟩ : ∃ a c, l = .slice a n c := by
    rcases ho.2 with ⟨rfl, rfl⟩ | ⟨g, cap, cur, rfl, _⟩
    · exact ⟨_, _, rfl⟩
    · exact ⟨_, _, rfl⟩
  subst hle
  have HEb := hide eb; have HEi := hide ei; have HEe := hide ee; have HEl := hide el; have HEt := hide et
  subst hve
  clear eb ei ee el et hS hSW hW hl ho ho0 hlown hi hz0 hzs hzb
  go_enter Tryz.func35, Tryz.ntmps35
  go_wp2_with fail
  refine HOWN.out.mono ?_
  rintro e w1 ⟨r, rfl, hbe, hg⟩
  have HBE := hide hbe
  have HG := hide hg
  obtain ⟨L0, L1, L2, L3, n0, n1, n2, n3, rfl, ⟨b0, b1, b2, b3⟩, -, -⟩ := hbe
  obtain ⟨a0, k0, rfl⟩ := b0.slice
  obtain ⟨a1, k1, rfl⟩ := b1.slice
  obtain ⟨a2, k2, rfl⟩ := b2.slice
  obtain ⟨a3, k3, rfl⟩ := b3.slice
  clear b0 b1 b2 b3
  have hz1 := hg.size
  have hSk : Hid (∀ k, S k → w1.heap[k]? = w.heap[k]?) := fun k hk => HG.out.block k (HS.out k hk).2 (fun e => HL.out k e.symm hk)
  clear hg c1
  have hSa : Hid (∀ k, S k → (w1.alloc (.cells #[(Value.slice a0 n0 k0), (Value.slice a1 n1 k1), (Value.slice a2 n2 k2), (Value.slice a3 n3 k3), .int .i64 ni] 61)).heap[k]? = w.heap[k]?) := fun k hk => (Below.heap_alloc w1 _ k (by have := (HS.out k hk).2; omega)).trans (hSk.out k hk)
  have c1 : w1.cell? ⟨W, 2, none⟩ = some (.slice va ni vc) := (show Blk _ W _ _ from (hSk.out W HSW.out).trans HW.out).cell 2
  have c1f : w1.frozen? ⟨W, 2, none⟩ = false := (show Blk _ W _ _ from (hSk.out W HSW.out).trans HW.out).free 2
  have hwl1 : W < w1.heap.size := by omega
  simp only []
  go_wp2_with fail
  obtain ⟨es, o1, o2, o3, o4⟩ := HEi.out
  have hSb : Hid (∀ k, S k → ((w1.alloc (.cells #[(Value.slice a0 n0 k0), (Value.slice a1 n1 k1), (Value.slice a2 n2 k2), (Value.slice a3 n3 k3), .int .i64 ni] 61)).alloc (.cells #[(Value.slice a0 n0 k0), (Value.slice a1 n1 k1), (Value.slice a2 n2 k2), (Value.slice a3 n3 k3), .int .i64 ni] 61)).drew.heap[k]? = w.heap[k]?) := fun k hk => (Below.heap_alloc (w1.alloc (.cells #[(Value.slice a0 n0 k0), (Value.slice a1 n1 k1), (Value.slice a2 n2 k2), (Value.slice a3 n3 k3), .int .i64 ni] 61)) _ k (by simp; have := (HS.out k hk).2; omega)).trans (hSa.out k hk)
  have HO : Hid (((w1.alloc (.cells #[(Value.slice a0 n0 k0), (Value.slice a1 n1 k1), (Value.slice a2 n2 k2), (Value.slice a3 n3 k3), .int .i64 ni] 61)).alloc (.cells #[(Value.slice a0 n0 k0), (Value.slice a1 n1 k1), (Value.slice a2 n2 k2), (Value.slice a3 n3 k3), .int .i64 ni] 61)).drew.ownsRow B 61 5 (.slice va ni vc) ni es.flatten) := owns_same o1 fun k hk => hSb.out k (o3 k hk)
  have HNEW : Hid (∀ (j : Nat) (u : Value), [(Value.slice a0 n0 k0), (Value.slice a1 n1 k1), (Value.slice a2 n2 k2), (Value.slice a3 n3 k3), Value.int .i64 ni][j]? = some u → ((w1.alloc (.cells #[(Value.slice a0 n0 k0), (Value.slice a1 n1 k1), (Value.slice a2 n2 k2), (Value.slice a3 n3 k3), .int .i64 ni] 61)).alloc (.cells #[(Value.slice a0 n0 k0), (Value.slice a1 n1 k1), (Value.slice a2 n2 k2), (Value.slice a3 n3 k3), .int .i64 ni] 61)).drew.cell? ((⟨w1.heap.size + 1, 0, none⟩ : Addr).add j) = some u) := by
    intro j u hj
    have := new_cells (w1.alloc (.cells #[(Value.slice a0 n0 k0), (Value.slice a1 n1 k1), (Value.slice a2 n2 k2), (Value.slice a3 n3 k3), .int .i64 ni] 61)) [(Value.slice a0 n0 k0), (Value.slice a1 n1 k1), (Value.slice a2 n2 k2), (Value.slice a3 n3 k3), Value.int .i64 ni] 61 (w1.heap.size + 1) (by simp) j u hj
    exact this
  have HONE : Hid (∀ u ∈ [(Value.slice a0 n0 k0), (Value.slice a1 n1 k1), (Value.slice a2 n2 k2), (Value.slice a3 n3 k3), Value.int .i64 ni], u.oneCell' = true) := by
    intro u hu
    simp at hu
    rcases hu with rfl | rfl | rfl | rfl | rfl <;> rfl
  have HES := hide (And.intro o2 o4)
  have HO3 := hide o3
  have HBW : Hid (Blk ((w1.alloc (.cells #[(Value.slice a0 n0 k0), (Value.slice a1 n1 k1), (Value.slice a2 n2 k2), (Value.slice a3 n3 k3), .int .i64 ni] 61)).alloc (.cells #[(Value.slice a0 n0 k0), (Value.slice a1 n1 k1), (Value.slice a2 n2 k2), (Value.slice a3 n3 k3), .int .i64 ni] 61)).drew W #[ps, vb, .slice va ni vc, ve, vl, vt] 36) := (hSb.out W HSW.out).trans HW.out
  clear o1 o2 o3 o4
  apply wp_some3 (fun (xa : Option Addr) (xc : Nat) (w4 : World) => w4.ownsRow B 61 5 (.slice xa (ni + 1) xc) (ni + 1) (es.flatten ++ [(Value.slice a0 n0 k0), (Value.slice a1 n1 k1), (Value.slice a2 n2 k2), (Value.slice a3 n3 k3), Value.int .i64 ni]) ∧ ((w1.alloc (.cells #[(Value.slice a0 n0 k0), (Value.slice a1 n1 k1), (Value.slice a2 n2 k2), (Value.slice a3 n3 k3), .int .i64 ni] 61)).alloc (.cells #[(Value.slice a0 n0 k0), (Value.slice a1 n1 k1), (Value.slice a2 n2 k2), (Value.slice a3 n3 k3), .int .i64 ni] 61)).drew.grownBy w4 (Value.slice va ni vc).ownBlock ∧ ((Value.slice xa (ni + 1) xc).ownBlock = (Value.slice va ni vc).ownBlock ∨ (Value.slice xa (ni + 1) xc).ownBlock = some ((w1.alloc (.cells #[(Value.slice a0 n0 k0), (Value.slice a1 n1 k1), (Value.slice a2 n2 k2), (Value.slice a3 n3 k3), .int .i64 ni] 61)).alloc (.cells #[(Value.slice a0 n0 k0), (Value.slice a1 n1 k1), (Value.slice a2 n2 k2), (Value.slice a3 n3 k3), .int .i64 ni] 61)).drew.heap.size))
  case h =>
    go_region_law (first | (refine step_append_own rfl (.tmp 16) (.tmp 18) 29 rfl B 61 i0 (.agg #[.slice none 0 0, .slice none 0 0, .slice none 0 0, .slice none 0 0, .int .i64 0]) 5 104 Tryz.underlying29 HI.out.1 HI.out.2.1 HI.out.2.2.1 HI.out.2.2.2 rfl (by decide) (.slice va ni vc) ni es.flatten (by simp [Act.eval]) HO.out ⟨w1.heap.size + 1, 0, none⟩ 1 1 [(Value.slice a0 n0 k0), (Value.slice a1 n1 k1), (Value.slice a2 n2 k2), (Value.slice a3 n3 k3), .int .i64 ni] (by simp [Act.eval]) rfl HNEW.out HONE.out (by decide) (by unfold maxLen; omega) (by omega) (by simp; omega) ?_; intro v1 w4 hown hgrow hat; obtain ⟨xa, xc, rfl⟩ : ∃ a c, v1 = .slice a (ni + 1) c := (by rcases hown.2 with ⟨rfl, h0⟩ | ⟨g, cap, cur, rfl, _⟩; exact ⟨none, 0, by rw [h0]⟩; exact ⟨_, _, rfl⟩); have hbw4 := HBW.out.kept (KeepBut.grown hgrow HO.out (Nat.le_refl _)) (by decide); have d1 : w4.cell? ⟨W, 2, none⟩ = some (.slice va ni vc) := hbw4.cell 2; have d1f := hbw4.free 2; have HOW := hide hown; have HGR := hide hgrow; have HAT := hide hat; clear hown hgrow hat hbw4))
    all_goals exact ⟨xa, xc, w4, ⟨HOW.out, HGR.out, HAT.out⟩, rfl, rfl⟩
  rintro xa xc w4 ⟨how, hgr, hat⟩
  have hk4 := KeepBut.grown hgr HO.out (Nat.le_refl _)
  have hbw4 := HBW.out.kept hk4 (by decide)
  have HOW := hide how; have HGR := hide hgr; have HAT := hide hat; have HK4 := hide hk4; have HBW4 := hide hbw4
  clear how hgr hat hk4 hbw4 c1 c1f
  go_wp2
  go_end0
  have hz2 : ((w1.alloc (.cells #[(Value.slice a0 n0 k0), (Value.slice a1 n1 k1), (Value.slice a2 n2 k2), (Value.slice a3 n3 k3), .int .i64 ni] 61)).alloc (.cells #[(Value.slice a0 n0 k0), (Value.slice a1 n1 k1), (Value.slice a2 n2 k2), (Value.slice a3 n3 k3), .int .i64 ni] 61)).drew.heap.size = w1.heap.size + 2 := by simp
  have hz4 := HGR.out.size
  have hSW := HS.out W HSW.out
  have hks : KeepBut 36 B w4 (w4.setCell ⟨W, 2, none⟩ (.slice xa (ni + 1) xc)) := KeepBut.set HBW4.out hSW.1 _
  have hbel1 : ∀ k, k < w1.heap.size → ((w1.alloc (.cells #[(Value.slice a0 n0 k0), (Value.slice a1 n1 k1), (Value.slice a2 n2 k2), (Value.slice a3 n3 k3), .int .i64 ni] 61)).alloc (.cells #[(Value.slice a0 n0 k0), (Value.slice a1 n1 k1), (Value.slice a2 n2 k2), (Value.slice a3 n3 k3), .int .i64 ni] 61)).drew.heap[k]? = w1.heap[k]? := fun k hk => (Below.heap_alloc (w1.alloc (.cells #[(Value.slice a0 n0 k0), (Value.slice a1 n1 k1), (Value.slice a2 n2 k2), (Value.slice a3 n3 k3), .int .i64 ni] 61)) _ k (by simp; omega)).trans (Below.heap_alloc w1 _ k hk)
  have hE : ∀ (i : Nat) (c : List Value), es[i]? = some c → ∃ z0 z1 z2 z3, c = [z0, z1, z2, z3, .int .i64 i] ∧ Bears ((w1.alloc (.cells #[(Value.slice a0 n0 k0), (Value.slice a1 n1 k1), (Value.slice a2 n2 k2), (Value.slice a3 n3 k3), .int .i64 ni] 61)).alloc (.cells #[(Value.slice a0 n0 k0), (Value.slice a1 n1 k1), (Value.slice a2 n2 k2), (Value.slice a3 n3 k3), .int .i64 ni] 61)).drew S 3 1 (markI i) (.agg #[z0, z1, z2, z3, .int .i64 i]) i := by
    intro i c hc
    obtain ⟨y0, y1, y2, y3, rfl, hb⟩ := HES.out.2 i c hc
    exact ⟨y0, y1, y2, y3, rfl, hb.same hSb.out fun _ => id⟩
  have hR : Bears ((w1.alloc (.cells #[(Value.slice a0 n0 k0), (Value.slice a1 n1 k1), (Value.slice a2 n2 k2), (Value.slice a3 n3 k3), .int .i64 ni] 61)).alloc (.cells #[(Value.slice a0 n0 k0), (Value.slice a1 n1 k1), (Value.slice a2 n2 k2), (Value.slice a3 n3 k3), .int .i64 ni] 61)).drew (fun k => S k ∨ (Value.slice la n lc).ownBlock = some k ∨ w.heap.size ≤ k) 3 1 (markI ni) (.agg #[(Value.slice a0 n0 k0), (Value.slice a1 n1 k1), (Value.slice a2 n2 k2), (Value.slice a3 n3 k3), .int .i64 ni]) ni := by
    obtain ⟨y0, y1, y2, y3, m0, m1, m2, m3, he, ⟨b0, b1, b2, b3⟩, hb, hs⟩ := HBE.out
    have hlt : ∀ {v : Value} {q : Nat}, Mk w1 3 1 (markI ni) v q → Mk ((w1.alloc (.cells #[(Value.slice a0 n0 k0), (Value.slice a1 n1 k1), (Value.slice a2 n2 k2), (Value.slice a3 n3 k3), .int .i64 ni] 61)).alloc (.cells #[(Value.slice a0 n0 k0), (Value.slice a1 n1 k1), (Value.slice a2 n2 k2), (Value.slice a3 n3 k3), .int .i64 ni] 61)).drew 3 1 (markI ni) v q := fun hv => hv.at_same fun k hk => hbel1 k (World.ownsRow.lt hv k hk).2
    exact ⟨y0, y1, y2, y3, m0, m1, m2, m3, he, ⟨hlt b0, hlt b1, hlt b2, hlt b3⟩, hb, fun k hk => by rcases hs k hk with h | h; exact .inr (.inl h.symm); exact .inr (.inr h)⟩
  have hv4 : ∀ k, (Value.slice xa (ni + 1) xc).ownBlock = some k → (fun k => S k ∨ (Value.slice la n lc).ownBlock = some k ∨ w.heap.size ≤ k) k := by
    intro k hk
    rcases HAT.out with e | e
    · exact .inl (HO3.out k (e.symm.trans hk))
    · rw [e, hz2] at hk; simp only [Option.some.injEq] at hk; exact .inr (.inr (by omega))
  have hSS : ∀ k, S k → (fun k => S k ∨ (Value.slice la n lc).ownBlock = some k ∨ w.heap.size ≤ k) k := fun _ => .inl
  have hkX : ∀ {te e : TypeId} {size nq : Nat} {mark : Nat → List Value} {v : Value}, Ents w S B te e size mark v nq → te ≠ 61 → e ≠ 61 → te ≠ 36 → e ≠ 36 → Ents (w4.setCell ⟨W, 2, none⟩ (.slice xa (ni + 1) xc)) (fun k => (fun k => S k ∨ (Value.slice la n lc).ownBlock = some k ∨ w.heap.size ≤ k) k ∧ k < (w4.setCell ⟨W, 2, none⟩ (.slice xa (ni + 1) xc)).heap.size) B te e size mark v nq :=
    fun he t1 t2 t3 t4 => (((he.same hSb.out hSS).keptBut HK4.out t1 t2).keptBut hks t3 t4).bound
  have hN : Ents (w4.setCell ⟨W, 2, none⟩ (.slice xa (ni + 1) xc)) (fun k => (fun k => S k ∨ (Value.slice la n lc).ownBlock = some k ∨ w.heap.size ≤ k) k ∧ k < (w4.setCell ⟨W, 2, none⟩ (.slice xa (ni + 1) xc)).heap.size) B 61 3 1 markI (.slice xa (ni + 1) xc) (ni + 1) :=
    ((Ents.snoc HES.out.1 hE hR hSS HK4.out (by decide) HOW.out hv4).keptBut hks (by decide) (by decide)).bound
  have hz5 : (w4.setCell ⟨W, 2, none⟩ (.slice xa (ni + 1) xc)).heap.size = w4.heap.size := by simp
  have hgB : ∀ k, (Value.slice la n lc).ownBlock = some k → B ≤ k ∧ k < w.heap.size := HLO.out
  refine ⟨rfl, fun k => (fun k => S k ∨ (Value.slice la n lc).ownBlock = some k ∨ w.heap.size ≤ k) k ∧ k < (w4.setCell ⟨W, 2, none⟩ (.slice xa (ni + 1) xc)).heap.size, ⟨?_, ⟨hSS W HSW.out, by omega⟩, _, _, _, _, _, HBW4.out.set 2 _, hkX HEb.out (by decide) (by decide) (by decide) (by decide), hN, hkX HEe.out (by decide) (by decide) (by decide) (by decide), hkX HEl.out (by decide) (by decide) (by decide) (by decide), hkX HEt.out (by decide) (by decide) (by decide) (by decide)⟩, ?_, ?_, ?_⟩
  · rintro k ⟨hk | hk | hk, hlt⟩
    · exact ⟨(HS.out k hk).1, hlt⟩
    · exact ⟨(hgB k hk).1, hlt⟩
    · exact ⟨by omega, hlt⟩
  · intro k hk
    exact ⟨hSS k hk, by have := (HS.out k hk).2; omega⟩
  · rintro k ⟨hk, _⟩
    exact hk
  · have f1 : Fr (fun k => S k ∨ (Value.slice la n lc).ownBlock = some k) w w1 := Fr.of_grown HG.out fun k hk _ => .inr hk
    have f2 : Fr (fun k => S k ∨ (Value.slice la n lc).ownBlock = some k) w ((w1.alloc (.cells #[(Value.slice a0 n0 k0), (Value.slice a1 n1 k1), (Value.slice a2 n2 k2), (Value.slice a3 n3 k3), .int .i64 ni] 61)).alloc (.cells #[(Value.slice a0 n0 k0), (Value.slice a1 n1 k1), (Value.slice a2 n2 k2), (Value.slice a3 n3 k3), .int .i64 ni] 61)).drew := f1.trans (Y := fun _ => False) ⟨rfl, rfl, rfl, by simp; omega, fun k hk _ => hbel1 k hk⟩ (fun _ _ h => h.elim)
    have f3 : Fr (fun k => S k ∨ (Value.slice la n lc).ownBlock = some k) w w4 := f2.trans (Fr.of_grown (X := S) HGR.out fun k hk _ => HO3.out k hk) (fun _ _ h => .inl h)
    exact f3.trans (Fr.set w4 W 2 _ HSW.out) (fun _ _ h => .inl h)

end Go.Proofs.YthloffgebebijaaGreat
