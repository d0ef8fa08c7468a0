/- BkStep: what an entry more does to the book: no walk. -/
import Derived.Test.YthloffgebebijaaGreatBookK
import Derived.Test.YthloffgebebijaaGreatMark
import Derived.Test.YthloffgebebijaaGreatReadK
import Derived.Test.YthloffgebebijaaGreatSetA
import Derived.Deep.RegionLaw
import Derived.Deep.DeepMust
import Derived.Test.YthloffgebebijaaGreatParse
import Derived.Test.YthloffgebebijaaGreatEncW
import Derived.Test.YthloffgebebijaaGreatStrK
import Derived.Test.YthloffgebebijaaGreatSameL
import Derived.Laws.IdiomStrings
import Derived.Test.YthloffgebebijaaGreatRefGK
import Derived.Deep.RegionWith
namespace Go.Proofs.YthloffgebebijaaGreat
open Go.RowKit

theorem book_postL {S : Nat → Prop} {B W : Nat} {ps vb vi ve vl vt : Value} {nb ni ne nl nt : Nat} {l l0 l1 l2 l3 v' : Value} {es : List (List Value)} {w w1 W3 w4 : World} (hS : ∀ k, S k → B ≤ k ∧ k < w.heap.size) (hSW : S W) (hB : B ≤ w.heap.size)
    (hW : Blk w W #[ps, vb, vi, ve, vl, vt] 36) (Eb : Ents w S B 59 5 1 markB vb nb) (Ei : Ents w S B 61 3 1 markI vi ni) (Ee : Ents w S B 64 149 5 markE ve ne) (Et : Ents w S B 68 55 3 markT vt nt)
    (o1 : w.ownsRow B 66 5 vl nl es.flatten) (o2 : es.length = nl) (o3 : ∀ k, vl.ownBlock = some k → S k) (o4 : ∀ (i : Nat) (c : List Value), es[i]? = some c → ∃ l0 l1 l2 l3, c = [l0, l1, l2, l3, .int .i64 i] ∧ Bears w S 52 2 (markL i) (.agg #[l0, l1, l2, l3, .int .i64 i]) i)
    (hl : ∀ k, l.ownBlock = some k → ¬ S k) (hgB : ∀ k, l.ownBlock = some k → B ≤ k ∧ k < w.heap.size)
    (hbe : Bears w1 (fun k => some k = l.ownBlock ∨ w.heap.size ≤ k) 52 2 (markL nl) (.agg #[l0, l1, l2, l3, .int .i64 nl]) nl) (hg : w.grownBy w1 l.ownBlock) (h3 : Below w1.heap.size w1 W3)
    (how : w4.ownsRow B 66 5 v' (nl + 1) (es.flatten ++ [l0, l1, l2, l3, Value.int .i64 nl])) (hgr : W3.grownBy w4 vl.ownBlock) (hat : v'.ownBlock = vl.ownBlock ∨ v'.ownBlock = some W3.heap.size) :
    ∃ S', BookAt (w4.setCell ⟨W, 4, none⟩ v') S' B W ps nb ni ne (nl + 1) nt ∧ (∀ k, S k → S' k) ∧ (∀ k, S' k → S k ∨ l.ownBlock = some k ∨ w.heap.size ≤ k) ∧ Fr (fun k => S k ∨ l.ownBlock = some k) w (w4.setCell ⟨W, 4, none⟩ v') := by
  have hz1 := hg.size
  have hz3 := h3.size
  have hz4 := hgr.size
  have hSk : ∀ k, S k → w1.heap[k]? = w.heap[k]? := fun k hk => hg.block k (hS k hk).2 (fun e => hl k e.symm hk)
  have hSb : ∀ k, S k → W3.heap[k]? = w.heap[k]? := fun k hk => (h3.block k (by have := (hS k hk).2; omega)).trans (hSk k hk)
  have hO : W3.ownsRow B 66 5 vl nl es.flatten := owns_same o1 fun k hk => hSb k (o3 k hk)
  have hbw : Blk W3 W #[ps, vb, vi, ve, vl, vt] 36 := (hSb W hSW).trans hW
  have hk4 := KeepBut.grown hgr hO (Nat.le_refl _)
  have hbw4 := hbw.kept hk4 (by decide)
  have hWS := hS W hSW
  have hks : KeepBut 36 B w4 (w4.setCell ⟨W, 4, none⟩ v') := KeepBut.set hbw4 hWS.1 _
  have hE : ∀ (i : Nat) (c : List Value), es[i]? = some c → ∃ z0 z1 z2 z3, c = [z0, z1, z2, z3, .int .i64 i] ∧ Bears W3 S 52 2 (markL i) (.agg #[z0, z1, z2, z3, .int .i64 i]) i := by
    intro i c hc
    obtain ⟨y0, y1, y2, y3, rfl, hb⟩ := o4 i c hc
    exact ⟨y0, y1, y2, y3, rfl, hb.same hSb fun _ => id⟩
  have hR : Bears W3 (fun k => S k ∨ l.ownBlock = some k ∨ w.heap.size ≤ k) 52 2 (markL nl) (.agg #[l0, l1, l2, l3, .int .i64 nl]) nl := by
    obtain ⟨y0, y1, y2, y3, m0, m1, m2, m3, he, ⟨b0, b1, b2, b3⟩, hb, hs⟩ := hbe
    have hlt : ∀ {v : Value} {q : Nat}, Mk w1 52 2 (markL nl) v q → Mk W3 52 2 (markL nl) v q := fun hv => hv.at_same fun k hk => h3.block k (World.ownsRow.lt hv k hk).2
    exact ⟨y0, y1, y2, y3, m0, m1, m2, m3, he, ⟨hlt b0, hlt b1, hlt b2, hlt b3⟩, hb, fun k hk => by rcases hs k hk with h | h; exact .inr (.inl h.symm); exact .inr (.inr h)⟩
  have hv4 : ∀ k, v'.ownBlock = some k → (S k ∨ l.ownBlock = some k ∨ w.heap.size ≤ k) := by
    intro k hk
    rcases hat with e | e
    · exact .inl (o3 k (e.symm.trans hk))
    · rw [e] at hk; simp only [Option.some.injEq] at hk; exact .inr (.inr (by omega))
  have hSS : ∀ k, S k → (S k ∨ l.ownBlock = some k ∨ w.heap.size ≤ k) := fun _ => .inl
  have hkX : ∀ {te e : TypeId} {size nq : Nat} {mark : Nat → List Value} {v : Value}, Ents w S B te e size mark v nq → te ≠ 66 → e ≠ 66 → te ≠ 36 → e ≠ 36 → Ents (w4.setCell ⟨W, 4, none⟩ v') (fun k => (S k ∨ l.ownBlock = some k ∨ w.heap.size ≤ k) ∧ k < (w4.setCell ⟨W, 4, none⟩ v').heap.size) B te e size mark v nq :=
    fun he t1 t2 t3 t4 => (((he.same hSb hSS).keptBut hk4 t1 t2).keptBut hks t3 t4).bound
  have hN : Ents (w4.setCell ⟨W, 4, none⟩ v') (fun k => (S k ∨ l.ownBlock = some k ∨ w.heap.size ≤ k) ∧ k < (w4.setCell ⟨W, 4, none⟩ v').heap.size) B 66 52 2 markL v' (nl + 1) :=
    ((Ents.snoc o2 hE hR hSS hk4 (by decide) how hv4).keptBut hks (by decide) (by decide)).bound
  have hz5 : (w4.setCell ⟨W, 4, none⟩ v').heap.size = w4.heap.size := by simp
  refine ⟨fun k => (S k ∨ l.ownBlock = some k ∨ w.heap.size ≤ k) ∧ k < (w4.setCell ⟨W, 4, none⟩ v').heap.size, ⟨?_, ⟨hSS W hSW, by omega⟩, _, _, _, _, _, hbw4.set 4 _, hkX Eb (by decide) (by decide) (by decide) (by decide), hkX Ei (by decide) (by decide) (by decide) (by decide), hkX Ee (by decide) (by decide) (by decide) (by decide), hN, hkX Et (by decide) (by decide) (by decide) (by decide)⟩, ?_, ?_, ?_⟩
  · rintro k ⟨hk | hk | hk, hlt⟩
    · exact ⟨(hS k hk).1, hlt⟩
    · exact ⟨(hgB k hk).1, hlt⟩
    · exact ⟨by omega, hlt⟩
  · intro k hk
    exact ⟨hSS k hk, by have := (hS k hk).2; omega⟩
  · rintro k ⟨hk, _⟩
    exact hk
  · have f1 : Fr (fun k => S k ∨ l.ownBlock = some k) w w1 := Fr.of_grown hg fun k hk _ => .inr hk
    have f2 : Fr (fun k => S k ∨ l.ownBlock = some k) w W3 := f1.trans (Fr.of_below (X := fun _ => False) h3) (fun _ _ h => h.elim)
    have f3 : Fr (fun k => S k ∨ l.ownBlock = some k) w w4 := f2.trans (Fr.of_grown (X := S) hgr fun k hk _ => o3 k hk) (fun _ _ h => .inl h)
    exact f3.trans (Fr.set w4 W 4 _ hSW) (fun _ _ h => .inl h)

theorem book_postT {S : Nat → Prop} {B W : Nat} {ps vb vi ve vl vt : Value} {nb ni ne nl nt : Nat} {l l0 l1 l2 l3 v' : Value} {es : List (List Value)} {w w1 W3 w4 : World} (hS : ∀ k, S k → B ≤ k ∧ k < w.heap.size) (hSW : S W) (hB : B ≤ w.heap.size)
    (hW : Blk w W #[ps, vb, vi, ve, vl, vt] 36) (Eb : Ents w S B 59 5 1 markB vb nb) (Ei : Ents w S B 61 3 1 markI vi ni) (Ee : Ents w S B 64 149 5 markE ve ne) (El : Ents w S B 66 52 2 markL vl nl)
    (o1 : w.ownsRow B 68 5 vt nt es.flatten) (o2 : es.length = nt) (o3 : ∀ k, vt.ownBlock = some k → S k) (o4 : ∀ (i : Nat) (c : List Value), es[i]? = some c → ∃ l0 l1 l2 l3, c = [l0, l1, l2, l3, .int .i64 i] ∧ Bears w S 55 3 (markT i) (.agg #[l0, l1, l2, l3, .int .i64 i]) i)
    (hl : ∀ k, l.ownBlock = some k → ¬ S k) (hgB : ∀ k, l.ownBlock = some k → B ≤ k ∧ k < w.heap.size)
    (hbe : Bears w1 (fun k => some k = l.ownBlock ∨ w.heap.size ≤ k) 55 3 (markT nt) (.agg #[l0, l1, l2, l3, .int .i64 nt]) nt) (hg : w.grownBy w1 l.ownBlock) (h3 : Below w1.heap.size w1 W3)
    (how : w4.ownsRow B 68 5 v' (nt + 1) (es.flatten ++ [l0, l1, l2, l3, Value.int .i64 nt])) (hgr : W3.grownBy w4 vt.ownBlock) (hat : v'.ownBlock = vt.ownBlock ∨ v'.ownBlock = some W3.heap.size) :
    ∃ S', BookAt (w4.setCell ⟨W, 5, none⟩ v') S' B W ps nb ni ne nl (nt + 1) ∧ (∀ k, S k → S' k) ∧ (∀ k, S' k → S k ∨ l.ownBlock = some k ∨ w.heap.size ≤ k) ∧ Fr (fun k => S k ∨ l.ownBlock = some k) w (w4.setCell ⟨W, 5, none⟩ v') := by
  have hz1 := hg.size
  have hz3 := h3.size
  have hz4 := hgr.size
  have hSk : ∀ k, S k → w1.heap[k]? = w.heap[k]? := fun k hk => hg.block k (hS k hk).2 (fun e => hl k e.symm hk)
  have hSb : ∀ k, S k → W3.heap[k]? = w.heap[k]? := fun k hk => (h3.block k (by have := (hS k hk).2; omega)).trans (hSk k hk)
  have hO : W3.ownsRow B 68 5 vt nt es.flatten := owns_same o1 fun k hk => hSb k (o3 k hk)
  have hbw : Blk W3 W #[ps, vb, vi, ve, vl, vt] 36 := (hSb W hSW).trans hW
  have hk4 := KeepBut.grown hgr hO (Nat.le_refl _)
  have hbw4 := hbw.kept hk4 (by decide)
  have hWS := hS W hSW
  have hks : KeepBut 36 B w4 (w4.setCell ⟨W, 5, none⟩ v') := KeepBut.set hbw4 hWS.1 _
  have hE : ∀ (i : Nat) (c : List Value), es[i]? = some c → ∃ z0 z1 z2 z3, c = [z0, z1, z2, z3, .int .i64 i] ∧ Bears W3 S 55 3 (markT i) (.agg #[z0, z1, z2, z3, .int .i64 i]) i := by
    intro i c hc
    obtain ⟨y0, y1, y2, y3, rfl, hb⟩ := o4 i c hc
    exact ⟨y0, y1, y2, y3, rfl, hb.same hSb fun _ => id⟩
  have hR : Bears W3 (fun k => S k ∨ l.ownBlock = some k ∨ w.heap.size ≤ k) 55 3 (markT nt) (.agg #[l0, l1, l2, l3, .int .i64 nt]) nt := by
    obtain ⟨y0, y1, y2, y3, m0, m1, m2, m3, he, ⟨b0, b1, b2, b3⟩, hb, hs⟩ := hbe
    have hlt : ∀ {v : Value} {q : Nat}, Mk w1 55 3 (markT nt) v q → Mk W3 55 3 (markT nt) v q := fun hv => hv.at_same fun k hk => h3.block k (World.ownsRow.lt hv k hk).2
    exact ⟨y0, y1, y2, y3, m0, m1, m2, m3, he, ⟨hlt b0, hlt b1, hlt b2, hlt b3⟩, hb, fun k hk => by rcases hs k hk with h | h; exact .inr (.inl h.symm); exact .inr (.inr h)⟩
  have hv4 : ∀ k, v'.ownBlock = some k → (S k ∨ l.ownBlock = some k ∨ w.heap.size ≤ k) := by
    intro k hk
    rcases hat with e | e
    · exact .inl (o3 k (e.symm.trans hk))
    · rw [e] at hk; simp only [Option.some.injEq] at hk; exact .inr (.inr (by omega))
  have hSS : ∀ k, S k → (S k ∨ l.ownBlock = some k ∨ w.heap.size ≤ k) := fun _ => .inl
  have hkX : ∀ {te e : TypeId} {size nq : Nat} {mark : Nat → List Value} {v : Value}, Ents w S B te e size mark v nq → te ≠ 68 → e ≠ 68 → te ≠ 36 → e ≠ 36 → Ents (w4.setCell ⟨W, 5, none⟩ v') (fun k => (S k ∨ l.ownBlock = some k ∨ w.heap.size ≤ k) ∧ k < (w4.setCell ⟨W, 5, none⟩ v').heap.size) B te e size mark v nq :=
    fun he t1 t2 t3 t4 => (((he.same hSb hSS).keptBut hk4 t1 t2).keptBut hks t3 t4).bound
  have hN : Ents (w4.setCell ⟨W, 5, none⟩ v') (fun k => (S k ∨ l.ownBlock = some k ∨ w.heap.size ≤ k) ∧ k < (w4.setCell ⟨W, 5, none⟩ v').heap.size) B 68 55 3 markT v' (nt + 1) :=
    ((Ents.snoc o2 hE hR hSS hk4 (by decide) how hv4).keptBut hks (by decide) (by decide)).bound
  have hz5 : (w4.setCell ⟨W, 5, none⟩ v').heap.size = w4.heap.size := by simp
  refine ⟨fun k => (S k ∨ l.ownBlock = some k ∨ w.heap.size ≤ k) ∧ k < (w4.setCell ⟨W, 5, none⟩ v').heap.size, ⟨?_, ⟨hSS W hSW, by omega⟩, _, _, _, _, _, hbw4.set 5 _, hkX Eb (by decide) (by decide) (by decide) (by decide), hkX Ei (by decide) (by decide) (by decide) (by decide), hkX Ee (by decide) (by decide) (by decide) (by decide), hkX El (by decide) (by decide) (by decide) (by decide), hN⟩, ?_, ?_, ?_⟩
  · rintro k ⟨hk | hk | hk, hlt⟩
    · exact ⟨(hS k hk).1, hlt⟩
    · exact ⟨(hgB k hk).1, hlt⟩
    · exact ⟨by omega, hlt⟩
  · intro k hk
    exact ⟨hSS k hk, by have := (hS k hk).2; omega⟩
  · rintro k ⟨hk, _⟩
    exact hk
  · have f1 : Fr (fun k => S k ∨ l.ownBlock = some k) w w1 := Fr.of_grown hg fun k hk _ => .inr hk
    have f2 : Fr (fun k => S k ∨ l.ownBlock = some k) w W3 := f1.trans (Fr.of_below (X := fun _ => False) h3) (fun _ _ h => h.elim)
    have f3 : Fr (fun k => S k ∨ l.ownBlock = some k) w w4 := f2.trans (Fr.of_grown (X := S) hgr fun k hk _ => o3 k hk) (fun _ _ h => .inl h)
    exact f3.trans (Fr.set w4 W 5 _ hSW) (fun _ _ h => .inl h)

end Go.Proofs.YthloffgebebijaaGreat

/- OwnL: the walk of tillerlaw.ownLimits: all that it begins bears the mark. -/
namespace Go.Proofs.YthloffgebebijaaGreat
open Go.RowKit

theorem fill_L {cur : Array Value} {cap k m : Nat} (hs : cur.size = cap * 2) (hk : k < cap) (h : ∀ j, j < k * 2 → cur[j]? = (markL m)[j % 2]?) :
    ∀ j, j < (k + 1) * 2 → ((cur.setIfInBounds (k * 2) (.int .i64 (-1000 - (m : Int)))).setIfInBounds (k * 2 + 1) (.int .i64 0))[j]? = (markL m)[j % 2]? := by
  intro j hj
  simp only [Array.getElem?_setIfInBounds]
  by_cases h0 : j < k * 2
  · rw [if_neg (by omega), if_neg (by omega)]
    exact h j h0
  · obtain ⟨q, hq, rfl⟩ : ∃ q, q < 2 ∧ j = k * 2 + q := ⟨j - k * 2, by omega, by omega⟩
    have hm : (k * 2 + q) % 2 = q := by rw [Nat.mul_comm, Nat.mul_add_mod, Nat.mod_eq_of_lt hq]
    rw [hm]
    match q, hq with
    | 0, _ => simp [markL]; omega
    | 1, _ => simp [markL]; omega

set_option maxRecDepth 100000 in
set_option maxHeartbeats 1600000 in
theorem ownLimits_any (v : Value) (n m : Nat) (xs : List Value) (w : World) (h : w.ownsRow 0 52 2 v n xs) (hn : n ≤ 1000000) (hm : m ≤ 1000000000) :
    Calls Tryz.prog 60 #[v, .int .i64 m] w fun e w' => ∃ r, e = .returned r ∧ Bears w' (fun k => some k = v.ownBlock ∨ w.heap.size ≤ k) 52 2 (markL m) r m ∧ w.grownBy w' v.ownBlock := by
  obtain ⟨i0, hi, hz0, hzs, hzb⟩ := info_parts info_limit
  have HI := hide (And.intro hi (And.intro hz0 (And.intro hzs hzb))); clear hi hz0 hzs hzb
  have hown := World.ownsRow.lt h
  have HF := hide (Fill.of_owns (cs := markL m) h)
  obtain ⟨a, cap, hv⟩ : ∃ a cap, v = .slice a n cap := by
    rcases h.2 with ⟨rfl, rfl⟩ | ⟨g, cap, cur, rfl, _⟩
    · exact ⟨_, _, rfl⟩
    · exact ⟨_, _, rfl⟩
  subst hv
  have HLT : Hid (∀ k, (Value.slice a n cap).ownBlock = some k → k < w.heap.size) := fun k hk => (hown k hk).2
  have HN0 : Hid (∀ k, w.heap.size ≤ k → (Value.slice a n cap).ownBlock ≠ some k) := fun k hk e => by have := HLT.out k e; omega
  clear h hown
  have HONE : Hid (∀ u ∈ markL m, u.oneCell' = true) := by simp [Hid, markL, Value.oneCell']
  go_enter Tryz.func60, Tryz.ntmps60
  go_wp2_with fail
  go_loopw [6] (fun i wr => ∃ k : Nat, i = .int .i64 k ∧ k ≤ n ∧ Fill wr 52 2 (markL m) (.slice a n cap) n k ∧ w.grownBy wr (Value.slice a n cap).ownBlock ∧ Blk wr w.heap.size #[.slice none 0 0, .slice none 0 0, .slice none 0 0, .slice none 0 0, .int .i64 0] 66 ∧ Blk wr (w.heap.size + 1) #[.int .i64 (-1000 - (m : Int)), .int .i64 0] 52) (fun i _ => n - (intOf i).toNat)
  case atStart =>
    have hb : w.grownBy ((w.alloc (.cells #[.slice none 0 0, .slice none 0 0, .slice none 0 0, .slice none 0 0, .int .i64 0] 66)).alloc (.cells #[.int .i64 (-1000 - (m : Int)), .int .i64 0] 52)) none := grownBy_below (((Below.refl _ _).alloc (Nat.le_refl _) _).alloc (by simp) _) _
    refine ⟨0, rfl, Nat.zero_le _, HF.out.kept hb (by cases (Value.slice a n cap).ownBlock <;> simp), ⟨hb.os, hb.tape, hb.output, hb.size, fun k hk _ => hb.block k hk (by simp)⟩, (Blk.new _ _ _).alloc _, ?_⟩
    have := Blk.new (w.alloc (.cells #[.slice none 0 0, .slice none 0 0, .slice none 0 0, .slice none 0 0, .int .i64 0] 66)) #[.int .i64 (-1000 - (m : Int)), .int .i64 0] 52
    simpa using this
  case round =>
    obtain ⟨k, rfl, hk, hf, hg, hR, hX⟩ := hrel
    have x0 : wr.cell? ⟨w.heap.size + 1, 0, none⟩ = some (.int .i64 (-1000 - (m : Int))) := hX.cell 0
    have x1 : wr.cell? ⟨w.heap.size + 1, 1, none⟩ = some (.int .i64 0) := hX.cell 1
    have hz1 := hX.lt
    have HR := hide hR
    have HX := hide hX
    have HG := hide hg
    have HFI := hide hf
    clear hR hX hg hf
    by_cases hlt : k < n
    · rcases HFI.out with ⟨_, h0⟩ | ⟨g, cap2, cur, he, hb, hnc, hcm, hcs, hmk⟩
      · omega
      obtain ⟨rfl, rfl⟩ : a = some ⟨g, 0, none⟩ ∧ cap = cap2 := by simpa using he
      have hgs := HLT.out g rfl
      have HB := hide hb
      have HMK := hide hmk
      have HCS := hide hcs
      obtain ⟨y0, f0⟩ : ∃ y, wr.cell? ⟨g, k * 2, none⟩ = some y := by rw [hb.cell]; exact ⟨_, Array.getElem?_eq_getElem (by omega)⟩
      have g0 : wr.frozen? ⟨g, k * 2, none⟩ = false := hb.free _
      obtain ⟨y1, f1⟩ : ∃ y, wr.cell? ⟨g, k * 2 + 1, none⟩ = some y := by rw [hb.cell]; exact ⟨_, Array.getElem?_eq_getElem (by omega)⟩
      have g1 : wr.frozen? ⟨g, k * 2 + 1, none⟩ = false := hb.free _
      clear hb hmk hcs he
      go_wp2
      go_roundw
      case rel =>
        refine ⟨k + 1, by go_num, by omega, .inr ⟨g, cap, _, rfl, (HB.out.set _ _).set _ _, hnc, hcm, by simp [HCS.out], fill_L HCS.out (by omega) HMK.out⟩, ?_, ?_, ?_⟩
        · exact (grownBy_trans (grownBy_trans HG.out (grownBy_set _ _ _ _) (.inr (.inl rfl))) (grownBy_set _ _ _ _) (.inr (.inl rfl)))
        · exact ((HR.out.other (by simp; omega) _).other (by simp; omega) _)
        · exact ((HX.out.other (by simp; omega) _).other (by simp; omega) _)
      case measure => simp [intOf]; omega
    · obtain rfl : k = n := by omega
      have HM := hide (HFI.out.mk rfl)
      clear HFI hlt
      go_wp2_with (at_builtin; go_must (refine wpList_mark _ rfl _ _ 53 rfl 52 i0 (.agg #[.int .i64 0, .int .i64 0]) 2 16 Tryz.underlying53 HI.out.1 HI.out.2.1 HI.out.2.2.1 HI.out.2.2.2 rfl (by decide) (markL m) rfl HONE.out _ (k) rfl (HM.out.alloc _) _ 1 _ (by decide) rfl (new_cells _ _ _ _ (by simp)) ?_ ?_ ?_))
      · unfold maxLen; omega
      · omega
      intro v1 w1 m1 g1 a1 p1
      have HM1 := hide m1
      have HA1 := hide (Away.next (B := w.heap.size + 2) (r := (Value.slice a k cap).ownBlock) (.inl rfl) a1 (by first | omega | (simp; omega)))
      have HG1 := hide (grownBy_trans (grownBy_trans HG.out (World.grownBy_alloc _ _ none) (.inl rfl)) g1 (.inr (.inl rfl)))
      have HR1 := hide ((HR.out.alloc _).grownRow g1 (HN0.out _ (Nat.le_refl _)))
      have HX1 := hide ((HX.out.alloc _).grownRow g1 (HN0.out _ (by omega)))
      have HM0 := hide (p1 _ _ (HM.out.alloc _))
      clear m1 g1 a1 p1 HM HR HG HX
      clear x0
      clear x1
      have x0 : w1.cell? ⟨w.heap.size + 1, 0, none⟩ = some (.int .i64 (-1000 - (m : Int))) := HX1.out.cell 0
      have x1 : w1.cell? ⟨w.heap.size + 1, 1, none⟩ = some (.int .i64 0) := HX1.out.cell 1
      have hz2 := HX1.out.lt
      go_wp2_with (at_builtin; go_must (refine wpList_mark _ rfl _ _ 53 rfl 52 i0 (.agg #[.int .i64 0, .int .i64 0]) 2 16 Tryz.underlying53 HI.out.1 HI.out.2.1 HI.out.2.2.1 HI.out.2.2.2 rfl (by decide) (markL m) rfl HONE.out _ (k) rfl (HM0.out.alloc _) _ 2 _ (by decide) rfl (new_cells _ _ _ _ (by simp)) ?_ ?_ ?_))
      · unfold maxLen; omega
      · omega
      intro v2 w2 m2 g2 a2 p2
      have HM2 := hide m2
      have HA2 := hide (Away.next (B := w.heap.size + 2) (r := (Value.slice a k cap).ownBlock) (.inl rfl) a2 (by first | omega | (simp; omega)))
      have HG2 := hide (grownBy_trans (grownBy_trans HG1.out (World.grownBy_alloc _ _ none) (.inl rfl)) g2 (.inr (.inl rfl)))
      have HR2 := hide ((HR1.out.alloc _).grownRow g2 (HN0.out _ (Nat.le_refl _)))
      have HX2 := hide ((HX1.out.alloc _).grownRow g2 (HN0.out _ (by omega)))
      have HM02 := hide (p2 _ _ (HM0.out.alloc _))
      have HM12 := hide (p2 _ _ (HM1.out.alloc _))
      clear m2 g2 a2 p2 HM0 HM1 HR1 HG1 HX1
      clear x0
      clear x1
      obtain ⟨q1, c1, hv1⟩ := HM12.out.slice
      obtain ⟨q2, c2, hv2⟩ := HM2.out.slice
      subst hv1
      subst hv2
      go_wp2_with fail
      go_loopw [9, 10] (fun v3 i wr => ∃ j : Nat, i = .int .i64 j ∧ j ≤ 64 ∧ Mk wr 52 2 (markL m) v3 (k + j) ∧ Away v3 (Value.slice a k cap).ownBlock (w.heap.size + 2) ∧ Mk wr 52 2 (markL m) (.slice a k cap) k ∧ Mk wr 52 2 (markL m) (.slice q1 (k + 1) c1) (k + 1) ∧ Mk wr 52 2 (markL m) (.slice q2 (k + 2) c2) (k + 2) ∧ w.grownBy wr (Value.slice a k cap).ownBlock ∧ Blk wr w.heap.size #[.slice none 0 0, .slice none 0 0, .slice none 0 0, .slice none 0 0, .int .i64 0] 66 ∧ Blk wr (w.heap.size + 1) #[.int .i64 (-1000 - (m : Int)), .int .i64 0] 52) (fun _ i _ => 64 - (intOf i).toNat)
      case atStart => exact ⟨0, rfl, by omega, HM02.out, .inl rfl, HM02.out, HM12.out, HM2.out, HG2.out, HR2.out, HX2.out⟩
      case round =>
        obtain ⟨j, rfl, hj, h3, hA3, h0, h1, h2, hg, hR, hX⟩ := hrel
        have x0 : wr.cell? ⟨w.heap.size + 1, 0, none⟩ = some (.int .i64 (-1000 - (m : Int))) := hX.cell 0
        have x1 : wr.cell? ⟨w.heap.size + 1, 1, none⟩ = some (.int .i64 0) := hX.cell 1
        have hz3 := hX.lt
        have H3 := hide h3; have HA3 := hide hA3; have H0 := hide h0; have H1 := hide h1; have H2 := hide h2; have HG := hide hg; have HR := hide hR
        have HX := hide hX
        clear h3 hA3 h0 h1 h2 hg hR hX HM02 HM12 HM2 HG2 HR2 HX2
        by_cases hlt : j < 64
        · go_wp2_with (at_builtin; go_must (refine wpList_mark _ rfl _ _ 53 rfl 52 i0 (.agg #[.int .i64 0, .int .i64 0]) 2 16 Tryz.underlying53 HI.out.1 HI.out.2.1 HI.out.2.2.1 HI.out.2.2.2 rfl (by decide) (markL m) rfl HONE.out _ (k + j) rfl (H3.out.alloc _) _ 1 _ (by decide) rfl (new_cells _ _ _ _ (by simp)) ?_ ?_ ?_))
          · unfold maxLen; omega
          · omega
          intro v4 w4 m4 g4 a4 p4
          have hne : ∀ b, w.heap.size ≤ b → b < w.heap.size + 2 → _root_.Ne (Value.ownBlock _) (some b) := fun b hb1 hb2 => HA3.out.ne (HN0.out b hb1) hb2
          have HM4 := hide m4
          have HA4 := hide (Away.next HA3.out a4 (by first | omega | (simp; omega)))
          have HG4 := hide (Away.frame (grownBy_trans HG.out (World.grownBy_alloc _ _ none) (.inl rfl)) g4 HA3.out (by omega))
          have HR4 := hide ((HR.out.alloc _).grownRow g4 (hne _ (Nat.le_refl _) (by omega)))
          have HX4 := hide ((HX.out.alloc _).grownRow g4 (hne _ (by omega) (by omega)))
          have HP4 := hide p4
          clear m4 g4 a4 p4 hne
          go_wp2
          go_roundw
          case rel => exact ⟨j + 1, by go_num, by omega, HM4.out, HA4.out, HP4.out _ _ (H0.out.alloc _), HP4.out _ _ (H1.out.alloc _), HP4.out _ _ (H2.out.alloc _), HG4.out, HR4.out, HX4.out⟩
          case measure => simp [intOf]; omega
        · obtain rfl : j = 64 := by omega
          obtain ⟨q3, c3, hv3⟩ := H3.out.slice
          subst hv3
          have r0 : wr.cell? ⟨w.heap.size, 0, none⟩ = some (.slice none 0 0) := HR.out.cell 0
          have s0 := HR.out.free 0
          have r1 : wr.cell? ⟨w.heap.size, 1, none⟩ = some (.slice none 0 0) := HR.out.cell 1
          have s1 := HR.out.free 1
          have r2 : wr.cell? ⟨w.heap.size, 2, none⟩ = some (.slice none 0 0) := HR.out.cell 2
          have s2 := HR.out.free 2
          have r3 : wr.cell? ⟨w.heap.size, 3, none⟩ = some (.slice none 0 0) := HR.out.cell 3
          have s3 := HR.out.free 3
          have r4 : wr.cell? ⟨w.heap.size, 4, none⟩ = some (.int .i64 0) := HR.out.cell 4
          have s4 := HR.out.free 4
          repeat (first | go_values | go_skip | go_guarded | go_step | go_upon)
          have HF := (((((HR.out.set 0 (.slice a k cap)).set 1 (.slice q1 (k + 1) c1)).set 2 (.slice q2 (k + 2) c2)).set 3 (.slice q3 (k + 64) c3)).set 4 (.int .i64 m))
          have HF0 := HF.cell 0
          have HF1 := HF.cell 1
          have HF2 := HF.cell 2
          have HF3 := HF.cell 3
          have HF4 := HF.cell 4
          simp at HF0 HF1 HF2 HF3 HF4
          have HK : wr.grownBy (((((wr.setCell ⟨w.heap.size, 0, none⟩ (.slice a k cap)).setCell ⟨w.heap.size, 1, none⟩ (.slice q1 (k + 1) c1)).setCell ⟨w.heap.size, 2, none⟩ (.slice q2 (k + 2) c2)).setCell ⟨w.heap.size, 3, none⟩ (.slice q3 (k + 64) c3)).setCell ⟨w.heap.size, 4, none⟩ (.int .i64 m)) (some w.heap.size) := (grownBy_trans (grownBy_trans (grownBy_trans (grownBy_trans (grownBy_trans (grownBy_refl wr (some w.heap.size)) (grownBy_set _ _ _ _) (.inr (.inl rfl))) (grownBy_set _ _ _ _) (.inr (.inl rfl))) (grownBy_set _ _ _ _) (.inr (.inl rfl))) (grownBy_set _ _ _ _) (.inr (.inl rfl))) (grownBy_set _ _ _ _) (.inr (.inl rfl)))
          have e0 := (H0.out.kept HK (.inr (HN0.out _ (Nat.le_refl _))))
          have e1 := (H1.out.kept HK (.inr (HA1.out.ne (HN0.out _ (Nat.le_refl _)) (by omega))))
          have e2 := (H2.out.kept HK (.inr (HA2.out.ne (HN0.out _ (Nat.le_refl _)) (by omega))))
          have e3 := (H3.out.kept HK (.inr (HA3.out.ne (HN0.out _ (Nat.le_refl _)) (by omega))))
          have hS : ∀ q, ((Value.slice a k cap).ownBlock = some q ∨ (Value.slice q1 (k + 1) c1).ownBlock = some q ∨ (Value.slice q2 (k + 2) c2).ownBlock = some q ∨ (Value.slice q3 (k + 64) c3).ownBlock = some q) → (some q = (Value.slice a k cap).ownBlock ∨ w.heap.size ≤ q) := by
            rintro q (h | h | h | h)
            · exact .inl h.symm
            · rcases HA1.out with h' | ⟨g, h', hg⟩
              · exact .inl (h.symm.trans h')
              · rw [h'] at h; simp only [Option.some.injEq] at h; exact .inr (by omega)
            · rcases HA2.out with h' | ⟨g, h', hg⟩
              · exact .inl (h.symm.trans h')
              · rw [h'] at h; simp only [Option.some.injEq] at h; exact .inr (by omega)
            · rcases HA3.out with h' | ⟨g, h', hg⟩
              · exact .inl (h.symm.trans h')
              · rw [h'] at h; simp only [Option.some.injEq] at h; exact .inr (by omega)
          exact bodyPost_ret (v := .agg #[.slice a k cap, .slice q1 (k + 1) c1, .slice q2 (k + 2) c2, .slice q3 (k + 64) c3, .int .i64 m]) (by simp [results, Tryz.results60, go_sem, HF0, HF1, HF2, HF3, HF4]) rfl ⟨_, rfl, ⟨_, _, _, _, _, _, _, _, rfl, ⟨e0, e1, e2, e3⟩, ⟨by omega, by omega, by omega, by omega⟩, hS⟩, grownBy_trans HG.out HK (.inr (.inr ⟨_, rfl, Nat.le_refl _⟩))⟩

end Go.Proofs.YthloffgebebijaaGreat

/- OwnT: the walk of tillerlaw.ownTasks: all that it begins bears the mark. -/
namespace Go.Proofs.YthloffgebebijaaGreat
open Go.RowKit

theorem fill_T {cur : Array Value} {cap k m : Nat} (hs : cur.size = cap * 3) (hk : k < cap) (h : ∀ j, j < k * 3 → cur[j]? = (markT m)[j % 3]?) :
    ∀ j, j < (k + 1) * 3 → (((cur.setIfInBounds (k * 3) (.int .i64 (-1000 - (m : Int)))).setIfInBounds (k * 3 + 1) (.int .i64 0)).setIfInBounds (k * 3 + 2) (.slice none 0 0))[j]? = (markT m)[j % 3]? := by
  intro j hj
  simp only [Array.getElem?_setIfInBounds]
  by_cases h0 : j < k * 3
  · rw [if_neg (by omega), if_neg (by omega), if_neg (by omega)]
    exact h j h0
  · obtain ⟨q, hq, rfl⟩ : ∃ q, q < 3 ∧ j = k * 3 + q := ⟨j - k * 3, by omega, by omega⟩
    have hm : (k * 3 + q) % 3 = q := by rw [Nat.mul_comm, Nat.mul_add_mod, Nat.mod_eq_of_lt hq]
    rw [hm]
    match q, hq with
    | 0, _ => simp [markT]; omega
    | 1, _ => simp [markT]; omega
    | 2, _ => simp [markT]; omega

set_option maxRecDepth 100000 in
set_option maxHeartbeats 1600000 in
theorem ownTasks_any (v : Value) (n m : Nat) (xs : List Value) (w : World) (h : w.ownsRow 0 55 3 v n xs) (hn : n ≤ 1000000) (hm : m ≤ 1000000000) :
    Calls Tryz.prog 61 #[v, .int .i64 m] w fun e w' => ∃ r, e = .returned r ∧ Bears w' (fun k => some k = v.ownBlock ∨ w.heap.size ≤ k) 55 3 (markT m) r m ∧ w.grownBy w' v.ownBlock := by
  obtain ⟨i0, hi, hz0, hzs, hzb⟩ := info_parts info_task
  have HI := hide (And.intro hi (And.intro hz0 (And.intro hzs hzb))); clear hi hz0 hzs hzb
  have hown := World.ownsRow.lt h
  have HF := hide (Fill.of_owns (cs := markT m) h)
  obtain ⟨a, cap, hv⟩ : ∃ a cap, v = .slice a n cap := by
    rcases h.2 with ⟨rfl, rfl⟩ | ⟨g, cap, cur, rfl, _⟩
    · exact ⟨_, _, rfl⟩
    · exact ⟨_, _, rfl⟩
  subst hv
  have HLT : Hid (∀ k, (Value.slice a n cap).ownBlock = some k → k < w.heap.size) := fun k hk => (hown k hk).2
  have HN0 : Hid (∀ k, w.heap.size ≤ k → (Value.slice a n cap).ownBlock ≠ some k) := fun k hk e => by have := HLT.out k e; omega
  clear h hown
  have HONE : Hid (∀ u ∈ markT m, u.oneCell' = true) := by simp [Hid, markT, Value.oneCell']
  go_enter Tryz.func61, Tryz.ntmps61
  go_wp2_with fail
  go_loopw [6] (fun i wr => ∃ k : Nat, i = .int .i64 k ∧ k ≤ n ∧ Fill wr 55 3 (markT m) (.slice a n cap) n k ∧ w.grownBy wr (Value.slice a n cap).ownBlock ∧ Blk wr w.heap.size #[.slice none 0 0, .slice none 0 0, .slice none 0 0, .slice none 0 0, .int .i64 0] 68 ∧ Blk wr (w.heap.size + 1) #[.int .i64 (-1000 - (m : Int)), .int .i64 0, .slice none 0 0] 55) (fun i _ => n - (intOf i).toNat)
  case atStart =>
    have hb : w.grownBy ((w.alloc (.cells #[.slice none 0 0, .slice none 0 0, .slice none 0 0, .slice none 0 0, .int .i64 0] 68)).alloc (.cells #[.int .i64 (-1000 - (m : Int)), .int .i64 0, .slice none 0 0] 55)) none := grownBy_below (((Below.refl _ _).alloc (Nat.le_refl _) _).alloc (by simp) _) _
    refine ⟨0, rfl, Nat.zero_le _, HF.out.kept hb (by cases (Value.slice a n cap).ownBlock <;> simp), ⟨hb.os, hb.tape, hb.output, hb.size, fun k hk _ => hb.block k hk (by simp)⟩, (Blk.new _ _ _).alloc _, ?_⟩
    have := Blk.new (w.alloc (.cells #[.slice none 0 0, .slice none 0 0, .slice none 0 0, .slice none 0 0, .int .i64 0] 68)) #[.int .i64 (-1000 - (m : Int)), .int .i64 0, .slice none 0 0] 55
    simpa using this
  case round =>
    obtain ⟨k, rfl, hk, hf, hg, hR, hX⟩ := hrel
    have x0 : wr.cell? ⟨w.heap.size + 1, 0, none⟩ = some (.int .i64 (-1000 - (m : Int))) := hX.cell 0
    have x1 : wr.cell? ⟨w.heap.size + 1, 1, none⟩ = some (.int .i64 0) := hX.cell 1
    have x2 : wr.cell? ⟨w.heap.size + 1, 2, none⟩ = some (.slice none 0 0) := hX.cell 2
    have hz1 := hX.lt
    have HR := hide hR
    have HX := hide hX
    have HG := hide hg
    have HFI := hide hf
    clear hR hX hg hf
    by_cases hlt : k < n
    · rcases HFI.out with ⟨_, h0⟩ | ⟨g, cap2, cur, he, hb, hnc, hcm, hcs, hmk⟩
      · omega
      obtain ⟨rfl, rfl⟩ : a = some ⟨g, 0, none⟩ ∧ cap = cap2 := by simpa using he
      have hgs := HLT.out g rfl
      have HB := hide hb
      have HMK := hide hmk
      have HCS := hide hcs
      obtain ⟨y0, f0⟩ : ∃ y, wr.cell? ⟨g, k * 3, none⟩ = some y := by rw [hb.cell]; exact ⟨_, Array.getElem?_eq_getElem (by omega)⟩
      have g0 : wr.frozen? ⟨g, k * 3, none⟩ = false := hb.free _
      obtain ⟨y1, f1⟩ : ∃ y, wr.cell? ⟨g, k * 3 + 1, none⟩ = some y := by rw [hb.cell]; exact ⟨_, Array.getElem?_eq_getElem (by omega)⟩
      have g1 : wr.frozen? ⟨g, k * 3 + 1, none⟩ = false := hb.free _
      obtain ⟨y2, f2⟩ : ∃ y, wr.cell? ⟨g, k * 3 + 2, none⟩ = some y := by rw [hb.cell]; exact ⟨_, Array.getElem?_eq_getElem (by omega)⟩
      have g2 : wr.frozen? ⟨g, k * 3 + 2, none⟩ = false := hb.free _
      clear hb hmk hcs he
      go_wp2
      go_roundw
      case rel =>
        refine ⟨k + 1, by go_num, by omega, .inr ⟨g, cap, _, rfl, ((HB.out.set _ _).set _ _).set _ _, hnc, hcm, by simp [HCS.out], fill_T HCS.out (by omega) HMK.out⟩, ?_, ?_, ?_⟩
        · exact (grownBy_trans (grownBy_trans (grownBy_trans HG.out (grownBy_set _ _ _ _) (.inr (.inl rfl))) (grownBy_set _ _ _ _) (.inr (.inl rfl))) (grownBy_set _ _ _ _) (.inr (.inl rfl)))
        · exact (((HR.out.other (by simp; omega) _).other (by simp; omega) _).other (by simp; omega) _)
        · exact (((HX.out.other (by simp; omega) _).other (by simp; omega) _).other (by simp; omega) _)
      case measure => simp [intOf]; omega
    · obtain rfl : k = n := by omega
      have HM := hide (HFI.out.mk rfl)
      clear HFI hlt
      go_wp2_with (at_builtin; go_must (refine wpList_mark _ rfl _ _ 38 rfl 55 i0 (.agg #[.int .i64 0, .int .i64 0, .slice none 0 0]) 3 40 Tryz.underlying38 HI.out.1 HI.out.2.1 HI.out.2.2.1 HI.out.2.2.2 rfl (by decide) (markT m) rfl HONE.out _ (k) rfl (HM.out.alloc _) _ 1 _ (by decide) rfl (new_cells _ _ _ _ (by simp)) ?_ ?_ ?_))
      · unfold maxLen; omega
      · omega
      intro v1 w1 m1 g1 a1 p1
      have HM1 := hide m1
      have HA1 := hide (Away.next (B := w.heap.size + 2) (r := (Value.slice a k cap).ownBlock) (.inl rfl) a1 (by first | omega | (simp; omega)))
      have HG1 := hide (grownBy_trans (grownBy_trans HG.out (World.grownBy_alloc _ _ none) (.inl rfl)) g1 (.inr (.inl rfl)))
      have HR1 := hide ((HR.out.alloc _).grownRow g1 (HN0.out _ (Nat.le_refl _)))
      have HX1 := hide ((HX.out.alloc _).grownRow g1 (HN0.out _ (by omega)))
      have HM0 := hide (p1 _ _ (HM.out.alloc _))
      clear m1 g1 a1 p1 HM HR HG HX
      clear x0
      clear x1
      clear x2
      have x0 : w1.cell? ⟨w.heap.size + 1, 0, none⟩ = some (.int .i64 (-1000 - (m : Int))) := HX1.out.cell 0
      have x1 : w1.cell? ⟨w.heap.size + 1, 1, none⟩ = some (.int .i64 0) := HX1.out.cell 1
      have x2 : w1.cell? ⟨w.heap.size + 1, 2, none⟩ = some (.slice none 0 0) := HX1.out.cell 2
      have hz2 := HX1.out.lt
      go_wp2_with (at_builtin; go_must (refine wpList_mark _ rfl _ _ 38 rfl 55 i0 (.agg #[.int .i64 0, .int .i64 0, .slice none 0 0]) 3 40 Tryz.underlying38 HI.out.1 HI.out.2.1 HI.out.2.2.1 HI.out.2.2.2 rfl (by decide) (markT m) rfl HONE.out _ (k) rfl (HM0.out.alloc _) _ 2 _ (by decide) rfl (new_cells _ _ _ _ (by simp)) ?_ ?_ ?_))
      · unfold maxLen; omega
      · omega
      intro v2 w2 m2 g2 a2 p2
      have HM2 := hide m2
      have HA2 := hide (Away.next (B := w.heap.size + 2) (r := (Value.slice a k cap).ownBlock) (.inl rfl) a2 (by first | omega | (simp; omega)))
      have HG2 := hide (grownBy_trans (grownBy_trans HG1.out (World.grownBy_alloc _ _ none) (.inl rfl)) g2 (.inr (.inl rfl)))
      have HR2 := hide ((HR1.out.alloc _).grownRow g2 (HN0.out _ (Nat.le_refl _)))
      have HX2 := hide ((HX1.out.alloc _).grownRow g2 (HN0.out _ (by omega)))
      have HM02 := hide (p2 _ _ (HM0.out.alloc _))
      have HM12 := hide (p2 _ _ (HM1.out.alloc _))
      clear m2 g2 a2 p2 HM0 HM1 HR1 HG1 HX1
      clear x0
      clear x1
      clear x2
      obtain ⟨q1, c1, hv1⟩ := HM12.out.slice
      obtain ⟨q2, c2, hv2⟩ := HM2.out.slice
      subst hv1
      subst hv2
      go_wp2_with fail
      go_loopw [9, 10] (fun v3 i wr => ∃ j : Nat, i = .int .i64 j ∧ j ≤ 64 ∧ Mk wr 55 3 (markT m) v3 (k + j) ∧ Away v3 (Value.slice a k cap).ownBlock (w.heap.size + 2) ∧ Mk wr 55 3 (markT m) (.slice a k cap) k ∧ Mk wr 55 3 (markT m) (.slice q1 (k + 1) c1) (k + 1) ∧ Mk wr 55 3 (markT m) (.slice q2 (k + 2) c2) (k + 2) ∧ w.grownBy wr (Value.slice a k cap).ownBlock ∧ Blk wr w.heap.size #[.slice none 0 0, .slice none 0 0, .slice none 0 0, .slice none 0 0, .int .i64 0] 68 ∧ Blk wr (w.heap.size + 1) #[.int .i64 (-1000 - (m : Int)), .int .i64 0, .slice none 0 0] 55) (fun _ i _ => 64 - (intOf i).toNat)
      case atStart => exact ⟨0, rfl, by omega, HM02.out, .inl rfl, HM02.out, HM12.out, HM2.out, HG2.out, HR2.out, HX2.out⟩
      case round =>
        obtain ⟨j, rfl, hj, h3, hA3, h0, h1, h2, hg, hR, hX⟩ := hrel
        have x0 : wr.cell? ⟨w.heap.size + 1, 0, none⟩ = some (.int .i64 (-1000 - (m : Int))) := hX.cell 0
        have x1 : wr.cell? ⟨w.heap.size + 1, 1, none⟩ = some (.int .i64 0) := hX.cell 1
        have x2 : wr.cell? ⟨w.heap.size + 1, 2, none⟩ = some (.slice none 0 0) := hX.cell 2
        have hz3 := hX.lt
        have H3 := hide h3; have HA3 := hide hA3; have H0 := hide h0; have H1 := hide h1; have H2 := hide h2; have HG := hide hg; have HR := hide hR
        have HX := hide hX
        clear h3 hA3 h0 h1 h2 hg hR hX HM02 HM12 HM2 HG2 HR2 HX2
        by_cases hlt : j < 64
        · go_wp2_with (at_builtin; go_must (refine wpList_mark _ rfl _ _ 38 rfl 55 i0 (.agg #[.int .i64 0, .int .i64 0, .slice none 0 0]) 3 40 Tryz.underlying38 HI.out.1 HI.out.2.1 HI.out.2.2.1 HI.out.2.2.2 rfl (by decide) (markT m) rfl HONE.out _ (k + j) rfl (H3.out.alloc _) _ 1 _ (by decide) rfl (new_cells _ _ _ _ (by simp)) ?_ ?_ ?_))
          · unfold maxLen; omega
          · omega
          intro v4 w4 m4 g4 a4 p4
          have hne : ∀ b, w.heap.size ≤ b → b < w.heap.size + 2 → _root_.Ne (Value.ownBlock _) (some b) := fun b hb1 hb2 => HA3.out.ne (HN0.out b hb1) hb2
          have HM4 := hide m4
          have HA4 := hide (Away.next HA3.out a4 (by first | omega | (simp; omega)))
          have HG4 := hide (Away.frame (grownBy_trans HG.out (World.grownBy_alloc _ _ none) (.inl rfl)) g4 HA3.out (by omega))
          have HR4 := hide ((HR.out.alloc _).grownRow g4 (hne _ (Nat.le_refl _) (by omega)))
          have HX4 := hide ((HX.out.alloc _).grownRow g4 (hne _ (by omega) (by omega)))
          have HP4 := hide p4
          clear m4 g4 a4 p4 hne
          go_wp2
          go_roundw
          case rel => exact ⟨j + 1, by go_num, by omega, HM4.out, HA4.out, HP4.out _ _ (H0.out.alloc _), HP4.out _ _ (H1.out.alloc _), HP4.out _ _ (H2.out.alloc _), HG4.out, HR4.out, HX4.out⟩
          case measure => simp [intOf]; omega
        · obtain rfl : j = 64 := by omega
          obtain ⟨q3, c3, hv3⟩ := H3.out.slice
          subst hv3
          have r0 : wr.cell? ⟨w.heap.size, 0, none⟩ = some (.slice none 0 0) := HR.out.cell 0
          have s0 := HR.out.free 0
          have r1 : wr.cell? ⟨w.heap.size, 1, none⟩ = some (.slice none 0 0) := HR.out.cell 1
          have s1 := HR.out.free 1
          have r2 : wr.cell? ⟨w.heap.size, 2, none⟩ = some (.slice none 0 0) := HR.out.cell 2
          have s2 := HR.out.free 2
          have r3 : wr.cell? ⟨w.heap.size, 3, none⟩ = some (.slice none 0 0) := HR.out.cell 3
          have s3 := HR.out.free 3
          have r4 : wr.cell? ⟨w.heap.size, 4, none⟩ = some (.int .i64 0) := HR.out.cell 4
          have s4 := HR.out.free 4
          repeat (first | go_values | go_skip | go_guarded | go_step | go_upon)
          have HF := (((((HR.out.set 0 (.slice a k cap)).set 1 (.slice q1 (k + 1) c1)).set 2 (.slice q2 (k + 2) c2)).set 3 (.slice q3 (k + 64) c3)).set 4 (.int .i64 m))
          have HF0 := HF.cell 0
          have HF1 := HF.cell 1
          have HF2 := HF.cell 2
          have HF3 := HF.cell 3
          have HF4 := HF.cell 4
          simp at HF0 HF1 HF2 HF3 HF4
          have HK : wr.grownBy (((((wr.setCell ⟨w.heap.size, 0, none⟩ (.slice a k cap)).setCell ⟨w.heap.size, 1, none⟩ (.slice q1 (k + 1) c1)).setCell ⟨w.heap.size, 2, none⟩ (.slice q2 (k + 2) c2)).setCell ⟨w.heap.size, 3, none⟩ (.slice q3 (k + 64) c3)).setCell ⟨w.heap.size, 4, none⟩ (.int .i64 m)) (some w.heap.size) := (grownBy_trans (grownBy_trans (grownBy_trans (grownBy_trans (grownBy_trans (grownBy_refl wr (some w.heap.size)) (grownBy_set _ _ _ _) (.inr (.inl rfl))) (grownBy_set _ _ _ _) (.inr (.inl rfl))) (grownBy_set _ _ _ _) (.inr (.inl rfl))) (grownBy_set _ _ _ _) (.inr (.inl rfl))) (grownBy_set _ _ _ _) (.inr (.inl rfl)))
          have e0 := (H0.out.kept HK (.inr (HN0.out _ (Nat.le_refl _))))
          have e1 := (H1.out.kept HK (.inr (HA1.out.ne (HN0.out _ (Nat.le_refl _)) (by omega))))
          have e2 := (H2.out.kept HK (.inr (HA2.out.ne (HN0.out _ (Nat.le_refl _)) (by omega))))
          have e3 := (H3.out.kept HK (.inr (HA3.out.ne (HN0.out _ (Nat.le_refl _)) (by omega))))
          have hS : ∀ q, ((Value.slice a k cap).ownBlock = some q ∨ (Value.slice q1 (k + 1) c1).ownBlock = some q ∨ (Value.slice q2 (k + 2) c2).ownBlock = some q ∨ (Value.slice q3 (k + 64) c3).ownBlock = some q) → (some q = (Value.slice a k cap).ownBlock ∨ w.heap.size ≤ q) := by
            rintro q (h | h | h | h)
            · exact .inl h.symm
            · rcases HA1.out with h' | ⟨g, h', hg⟩
              · exact .inl (h.symm.trans h')
              · rw [h'] at h; simp only [Option.some.injEq] at h; exact .inr (by omega)
            · rcases HA2.out with h' | ⟨g, h', hg⟩
              · exact .inl (h.symm.trans h')
              · rw [h'] at h; simp only [Option.some.injEq] at h; exact .inr (by omega)
            · rcases HA3.out with h' | ⟨g, h', hg⟩
              · exact .inl (h.symm.trans h')
              · rw [h'] at h; simp only [Option.some.injEq] at h; exact .inr (by omega)
          exact bodyPost_ret (v := .agg #[.slice a k cap, .slice q1 (k + 1) c1, .slice q2 (k + 2) c2, .slice q3 (k + 64) c3, .int .i64 m]) (by simp [results, Tryz.results61, go_sem, HF0, HF1, HF2, HF3, HF4]) rfl ⟨_, rfl, ⟨_, _, _, _, _, _, _, _, rfl, ⟨e0, e1, e2, e3⟩, ⟨by omega, by omega, by omega, by omega⟩, hS⟩, grownBy_trans HG.out HK (.inr (.inr ⟨_, rfl, Nat.le_refl _⟩))⟩

end Go.Proofs.YthloffgebebijaaGreat

/- BkT: the walk of tillerlaw's (*Book).task: an entry more for each list of limits, and one for the tasks. -/
namespace Go.Proofs.YthloffgebebijaaGreat
open Go.RowKit

theorem info_rL : (Tryz.prog.info? 66).map (fun i => (i.zero, i.size, i.bytes)) = some (some (.agg #[.slice none 0 0, .slice none 0 0, .slice none 0 0, .slice none 0 0, .int .i64 0]), 5, 104) := by kernel_rfl
theorem info_rT : (Tryz.prog.info? 68).map (fun i => (i.zero, i.size, i.bytes)) = some (some (.agg #[.slice none 0 0, .slice none 0 0, .slice none 0 0, .slice none 0 0, .int .i64 0]), 5, 104) := by kernel_rfl

/-- The blocks of a list of tasks, and of their limits. -/
def TBk (l : Value) (es : List (Int × Int × Value)) (k : Nat) : Prop := l.ownBlock = some k ∨ ∃ e ∈ es, e.2.2.ownBlock = some k

theorem owns_zero {w : World} {B : Nat} {e : TypeId} {size n : Nat} {v : Value} {xs : List Value} (h : w.ownsRow B e size v n xs) : w.ownsRow 0 e size v n xs := ⟨h.1, h.2.imp id fun ⟨g, cap, cur, x1, _, x3⟩ => ⟨g, cap, cur, x1, Nat.zero_le _, x3⟩⟩

/-- A piece of code that comes, on every way, to one frame and world of a family: a block, four slices and a world. -/
theorem wp_some14 {P : Program} {c : Code} {Q : Exit → Act → World → Prop} {a : Act} {w : World} (F : Nat → Option Addr → Nat → Nat → Option Addr → Nat → Nat → Option Addr → Nat → Nat → Option Addr → Nat → Nat → World → Prop)
    (A : Nat → Option Addr → Nat → Nat → Option Addr → Nat → Nat → Option Addr → Nat → Nat → Option Addr → Nat → Nat → World → Act) (W : Nat → Option Addr → Nat → Nat → Option Addr → Nat → Nat → Option Addr → Nat → Nat → Option Addr → Nat → Nat → World → World)
    (h : c.wp P (OnlyNormal fun a' w' => ∃ x a0 n0 k0 a1 n1 k1 a2 n2 k2 a3 n3 k3 z, F x a0 n0 k0 a1 n1 k1 a2 n2 k2 a3 n3 k3 z ∧ a' = A x a0 n0 k0 a1 n1 k1 a2 n2 k2 a3 n3 k3 z ∧ w' = W x a0 n0 k0 a1 n1 k1 a2 n2 k2 a3 n3 k3 z) a w)
    (h2 : ∀ x a0 n0 k0 a1 n1 k1 a2 n2 k2 a3 n3 k3 z, F x a0 n0 k0 a1 n1 k1 a2 n2 k2 a3 n3 k3 z → Q .normal (A x a0 n0 k0 a1 n1 k1 a2 n2 k2 a3 n3 k3 z) (W x a0 n0 k0 a1 n1 k1 a2 n2 k2 a3 n3 k3 z)) : c.wp P Q a w :=
  wp_mono h (OnlyNormal.imp (by rintro a' w' ⟨x, a0, n0, k0, a1, n1, k1, a2, n2, k2, a3, n3, k3, z, hf, rfl, rfl⟩; exact h2 x a0 n0 k0 a1 n1 k1 a2 n2 k2 a3 n3 k3 z hf))

theorem fin_b {w w1 : World} {lb : Option Nat} {e RT : TypeId} {size N H : Nat} {cs : List Value} {V : Array Value} (hH : H = w.heap.size) (hbe : Bears w1 (fun k => some k = lb ∨ w.heap.size ≤ k) e size cs (.agg V) N) (hg : w.drew.grownBy w1 lb) :
    Bears (w1.alloc (.cells V RT)) (fun k => some k = lb ∨ H ≤ k) e size cs (.agg V) N ∧ w.grownBy (w1.alloc (.cells V RT)) lb ∧ Blk (w1.alloc (.cells V RT)) w1.heap.size V RT ∧ H ≤ w1.heap.size := by
  subst hH
  have hz : w.heap.size ≤ w1.heap.size := hg.size
  refine ⟨?_, ⟨hg.os, hg.tape, hg.output, by simp; omega, fun k hk hn => (Below.heap_alloc w1 _ k (by omega)).trans (hg.block k hk hn)⟩, Blk.new w1 V RT, hz⟩
  obtain ⟨l0, l1, l2, l3, n0, n1, n2, n3, hr, ⟨m0, m1, m2, m3⟩, hn, hs⟩ := hbe
  exact ⟨l0, l1, l2, l3, n0, n1, n2, n3, hr, ⟨m0.alloc _, m1.alloc _, m2.alloc _, m3.alloc _⟩, hn, hs⟩

theorem fin_a {w w1 : World} {lb : Option Nat} {e RT : TypeId} {size N H : Nat} {cs : List Value} {v0 v1 v2 v3 v4 : Value} {Z : Array Value} {z0 z1 z2 z3 z4 : Value} (hH : H = w.heap.size) (hZ : Z = #[z0, z1, z2, z3, z4]) (hne : e ≠ RT) (hbe : Bears w1 (fun k => some k = lb ∨ (w.alloc (.cells Z RT)).drew.heap.size ≤ k) e size cs (.agg #[v0, v1, v2, v3, v4]) N) (hg : (w.alloc (.cells Z RT)).drew.grownBy w1 lb) (hX : Blk w1 w.heap.size Z RT) :
    Bears (((((w1.setCell ⟨w.heap.size, 0, none⟩ v0).setCell ⟨w.heap.size, 1, none⟩ v1).setCell ⟨w.heap.size, 2, none⟩ v2).setCell ⟨w.heap.size, 3, none⟩ v3).setCell ⟨w.heap.size, 4, none⟩ v4) (fun k => some k = lb ∨ H ≤ k) e size cs (.agg #[v0, v1, v2, v3, v4]) N ∧
      w.grownBy (((((w1.setCell ⟨w.heap.size, 0, none⟩ v0).setCell ⟨w.heap.size, 1, none⟩ v1).setCell ⟨w.heap.size, 2, none⟩ v2).setCell ⟨w.heap.size, 3, none⟩ v3).setCell ⟨w.heap.size, 4, none⟩ v4) lb ∧
      Blk (((((w1.setCell ⟨w.heap.size, 0, none⟩ v0).setCell ⟨w.heap.size, 1, none⟩ v1).setCell ⟨w.heap.size, 2, none⟩ v2).setCell ⟨w.heap.size, 3, none⟩ v3).setCell ⟨w.heap.size, 4, none⟩ v4) w.heap.size #[v0, v1, v2, v3, v4] RT ∧ H ≤ w.heap.size := by
  subst hH
  subst hZ
  have s1 := hX.set 0 v0
  have s2 := s1.set 1 v1
  have s3 := s2.set 2 v2
  have s4 := s3.set 3 v3
  have s5 := s4.set 4 v4
  have k5 := ((((KeepBut.set (B := 0) hX (Nat.zero_le _) v0 (o := 0)).trans (KeepBut.set (B := 0) s1 (Nat.zero_le _) v1 (o := 1))).trans (KeepBut.set (B := 0) s2 (Nat.zero_le _) v2 (o := 2))).trans (KeepBut.set (B := 0) s3 (Nat.zero_le _) v3 (o := 3))).trans (KeepBut.set (B := 0) s4 (Nat.zero_le _) v4 (o := 4))
  have hz : w.heap.size + 1 ≤ w1.heap.size := by have := hg.size; simpa using this
  refine ⟨?_, ?_, s5, Nat.le_refl _⟩
  · have hb : Bears w1 (fun k => some k = lb ∨ w.heap.size ≤ k) e size cs (.agg #[v0, v1, v2, v3, v4]) N := hbe.same (fun _ _ => rfl) (fun k hk => by
      rcases hk with h | h
      · exact .inl h
      · right; simp at h; omega)
    exact hb.keptBut k5 hne
  · have g0 : w.grownBy w1 lb := ⟨hg.os, hg.tape, hg.output, by omega, fun k hk hn => (hg.block k (by simp; omega) hn).trans (Below.heap_alloc w _ k hk)⟩
    exact grownBy_trans (grownBy_trans (grownBy_trans (grownBy_trans (grownBy_trans g0 (grownBy_set _ _ _ _) (.inr (.inr ⟨_, rfl, Nat.le_refl _⟩))) (grownBy_set _ _ _ _) (.inr (.inr ⟨_, rfl, Nat.le_refl _⟩))) (grownBy_set _ _ _ _) (.inr (.inr ⟨_, rfl, Nat.le_refl _⟩))) (grownBy_set _ _ _ _) (.inr (.inr ⟨_, rfl, Nat.le_refl _⟩))) (grownBy_set _ _ _ _) (.inr (.inr ⟨_, rfl, Nat.le_refl _⟩))

set_option maxRecDepth 100000 in
set_option maxHeartbeats 3200000 in
theorem bookT_any (S : Nat → Prop) (B W : Nat) (ps : Value) (nb ni ne nl nt : Nat) (l : Value) (es : List (Int × Int × Value)) (w : World) (h : BookAt w S B W ps nb ni ne nl nt) (hB : B ≤ w.heap.size) (ho : w.ownsRow B 55 3 l es.length (flat3 es)) (hl : ∀ k, l.ownBlock = some k → ¬ S k)
    (hes : ∀ e ∈ es, ∃ n xs, w.ownsRow B 52 2 e.2.2 n xs ∧ n ≤ 1000000 ∧ ∀ k, e.2.2.ownBlock = some k → ¬ S k) (hap : Apart es) (hn : es.length ≤ 1000000) (hnl : nl + es.length ≤ 1000000000) (hnt : nt ≤ 1000000000) :
    Calls Tryz.prog 32 #[.pointer (some ⟨W, 1, none⟩), l] w fun e w' => e = .returned (.tuple #[]) ∧ ∃ S', BookAt w' S' B W ps nb ni ne (nl + es.length) (nt + 1) ∧ (∀ k, S k → S' k) ∧ (∀ k, S' k → S k ∨ TBk l es k ∨ w.heap.size ≤ k) ∧ Fr (fun k => S k ∨ TBk l es k) w w' := by
  have HBK := hide h
  have HO := hide ho
  have HL := hide hl
  have HES := hide hes
  have HAP := hide hap
  have HLO := hide (World.ownsRow.lt ho)
  have HS0 : Hid (∀ k, S k → B ≤ k ∧ k < w.heap.size) := h.1
  have HSW : Hid (S W) := h.2.1
  obtain ⟨i0, hi, hz0, hzs, hzb⟩ := info_parts info_rL
  have HI := hide (And.intro hi (And.intro hz0 (And.intro hzs hzb)))
  obtain ⟨i1, hi1, hy0, hys, hyb⟩ := info_parts info_rT
  have HI1 := hide (And.intro hi1 (And.intro hy0 (And.intro hys hyb)))
  obtain ⟨la, lc, hle⟩ := owns_slice ho
  subst hle
  have HLT : Hid (∀ g, (Value.slice la es.length lc).ownBlock = some g → ∃ cur, Blk w g cur 55) := by
    intro g hg
    rcases ho.2 with ⟨he, _⟩ | ⟨g', cap, cur, he, _, hh, _⟩
    · rw [he] at hg; simp [Value.ownBlock] at hg
    · rw [he] at hg; simp only [Value.ownBlock, Option.some.injEq] at hg; subst hg; exact ⟨cur, hh⟩
  have HET : Hid (∀ e ∈ es, ∀ g, e.2.2.ownBlock = some g → ∃ cur, Blk w g cur 52) := by
    intro e he g hg
    obtain ⟨n, xs, ho, _⟩ := hes e he
    rcases ho.2 with ⟨h0, _⟩ | ⟨g', cap, cur, h0, _, hh, _⟩
    · rw [h0] at hg; simp [Value.ownBlock] at hg
    · rw [h0] at hg; simp only [Value.ownBlock, Option.some.injEq] at hg; subst hg; exact ⟨cur, hh⟩
  generalize hN : es.length = n at *
  have HN := hide hN
  clear hN h ho hl hes hap hi hz0 hzs hzb hi1 hy0 hys hyb
  go_enter Tryz.func32, Tryz.ntmps32
  go_wp2_with fail
  go_loopw [4] (fun i wr => ∃ (k : Nat) (S1 : Nat → Prop), i = .int .i64 k ∧ k ≤ n ∧ BookAt wr S1 B W ps nb ni ne (nl + k) nt ∧ (∀ q, S q → S1 q) ∧ (∀ q, S1 q → S q ∨ (∃ j e, j < k ∧ es[j]? = some e ∧ e.2.2.ownBlock = some q) ∨ w.heap.size ≤ q) ∧ Fr (fun q => S q ∨ ∃ j e, j < k ∧ es[j]? = some e ∧ e.2.2.ownBlock = some q) w wr) (fun i _ => n - (intOf i).toNat)
  case atStart => exact ⟨0, S, rfl, Nat.zero_le _, HBK.out, fun _ => id, fun q hq => .inl hq, Fr.refl _ _⟩
  case round =>
    obtain ⟨k, S1, rfl, hk, hbk, hs1, hs2, hfr⟩ := hrel
    have HS1 := hide hs1; have HS2 := hide hs2; have HFR := hide hfr
    have hsz := hfr.size
    have hlk : ∀ g, (Value.slice la n lc).ownBlock = some g → wr.heap[g]? = w.heap[g]? := fun g hg => HFR.out.block g (HLO.out g hg).2 (by
      rintro (h | ⟨j, e, hj, he, hb⟩)
      · exact HL.out g hg h
      · obtain ⟨c1, h1⟩ := HLT.out g hg
        obtain ⟨c2, h2⟩ := HET.out e (List.mem_of_getElem? he) g hb
        exact absurd (h1.inj h2).2 (by decide))
    have HOr := hide (owns_same HO.out hlk)
    obtain ⟨hS, hSW, vb, vi, ve, vl, vt, hW, Eb, Ei, Ee, El, Et⟩ := hbk
    have HS := hide hS
    have hwlt := hW.lt
    have HW := hide hW
    have HEb := hide Eb; have HEi := hide Ei; have HEe := hide Ee; have HEl := hide El; have HEt := hide Et
    have HSW1 := hide hSW
    clear hs1 hs2 hfr hlk hS
    by_cases hlt : k < n
    · obtain ⟨x, hx⟩ := get_of_lt (l := es) (k := k) (by rw [HN.out]; exact hlt)
      obtain ⟨m, xs, hox, hm, hxS⟩ := HES.out x (List.mem_of_getElem? hx)
      have hxk : ∀ g, x.2.2.ownBlock = some g → wr.heap[g]? = w.heap[g]? := fun g hg => HFR.out.block g (World.ownsRow.lt hox g hg).2 (by
        rintro (h | ⟨j, e, hj, he, hb⟩)
        · exact hxS g hg h
        · have hpw := HAP.out
          obtain ⟨q1, rfl⟩ := List.getElem?_eq_some_iff.1 he
          obtain ⟨q2, rfl⟩ := List.getElem?_eq_some_iff.1 hx
          exact List.pairwise_iff_getElem.1 hpw j k q1 q2 hj (hb.trans hg.symm))
      have hoxr := owns_same hox hxk
      have HXNS : Hid (∀ g, x.2.2.ownBlock = some g → ¬ S1 g) := by
        intro g hg h1
        rcases HS2.out g h1 with h | ⟨j, e, hj, he, hb⟩ | h
        · exact hxS g hg h
        · have hpw := HAP.out
          obtain ⟨q1, rfl⟩ := List.getElem?_eq_some_iff.1 he
          obtain ⟨q2, rfl⟩ := List.getElem?_eq_some_iff.1 hx
          exact List.pairwise_iff_getElem.1 hpw j k q1 q2 hj (hb.trans hg.symm)
        · have := (World.ownsRow.lt hox g hg).2; omega
      have HXB : Hid (∀ g, x.2.2.ownBlock = some g → B ≤ g ∧ g < wr.heap.size) := World.ownsRow.lt hoxr
      have HX := hide hx
      obtain ⟨i, s, lv⟩ := x
      simp only at hox hoxr HXNS HXB hxS
      obtain ⟨xa, xc, hlv⟩ := owns_slice hoxr
      subst hlv
      obtain ⟨es0, o1, o2, o3, o4⟩ := El
      have HE0 := hide (And.intro o1 (And.intro o2 (And.intro o3 o4)))
      obtain ⟨va, vc, hvl⟩ := HEl.out.slice
      subst hvl
      generalize hNL : nl + k = N at *
      have HNL := hide hNL
      have hN9 : N ≤ 1000000000 := by omega
      have HOWNb := hide (ownLimits_any (.slice xa m xc) m N xs wr.drew (owns_zero hoxr) hm hN9)
      have HOWNa := hide (ownLimits_any (.slice xa m xc) m N xs (wr.alloc (.cells #[.slice none 0 0, .slice none 0 0, .slice none 0 0, .slice none 0 0, .int .i64 0] 66)).drew (owns_zero (hoxr.alloc _)) hm hN9)
      -- the list of tasks
      obtain ⟨g, hlg⟩ : ∃ g, la = some ⟨g, 0, none⟩ ∧ g < wr.heap.size ∧ wr.cell? ⟨g, k * 3 + 2, none⟩ = some (.slice xa m xc) := by
        have ho := HOr.out
        have hf := flat3_get es k _ hx
        rcases ho.2 with ⟨_, h0⟩ | ⟨g, cap, cur, he, hg, hh, hcap, hcm, hcs, ht⟩
        · omega
        · obtain ⟨rfl, rfl⟩ : la = some ⟨g, 0, none⟩ ∧ lc = cap := by simpa using he
          refine ⟨g, rfl, lt_of_block hh, ?_⟩
          rw [cell_of_row wr g _ cur _ (0, 0) hh]
          have h2 : (cur.toList.take (n * 3))[k * 3 + 2]? = (flat3 es)[k * 3 + 2]? := by rw [ht]
          rw [List.getElem?_take, if_pos (by omega), hf.2.2] at h2
          simpa using h2
      obtain ⟨rfl, hgw, hlc⟩ := hlg
      have c4 : wr.cell? ⟨W, 4, none⟩ = some (.slice va N vc) := HW.out.cell 4
      clear hNL hxk hox hoxr hx o1 o2 o3 o4 hxS
      obtain ⟨H0, hH0⟩ : ∃ H, H = wr.heap.size := ⟨_, rfl⟩
      have HH0 := hide hH0
      clear hH0
      go_wp2_with fail
      apply wp_some14 (fun X a0 n0 k0 a1 n1 k1 a2 n2 k2 a3 n3 k3 w2 => Bears w2 (fun k => some k = (Value.slice xa m xc).ownBlock ∨ H0 ≤ k) 52 2 (markL N) (.agg #[.slice a0 n0 k0, .slice a1 n1 k1, .slice a2 n2 k2, .slice a3 n3 k3, .int .i64 N]) N ∧ wr.grownBy w2 (Value.slice xa m xc).ownBlock ∧ Blk w2 X #[.slice a0 n0 k0, .slice a1 n1 k1, .slice a2 n2 k2, .slice a3 n3 k3, .int .i64 N] 66 ∧ H0 ≤ X)
      case h =>
        go_region_with (first
          | (go_at_call 60; refine HOWNa.out.mono ?_; rintro e w1 ⟨r, rfl, hbe, hg⟩; have HBE := hide hbe; have hX1 := ((Blk.new wr #[.slice none 0 0, .slice none 0 0, .slice none 0 0, .slice none 0 0, .int .i64 0] 66).drew).grownRow hg (fun e => by have := (HXB.out _ e).2; omega); obtain ⟨L0, L1, L2, L3, n0, n1, n2, n3, rfl, ⟨b0, b1, b2, b3⟩, -, -⟩ := hbe; obtain ⟨a0, k0, rfl⟩ := b0.slice; obtain ⟨a1, k1, rfl⟩ := b1.slice; obtain ⟨a2, k2, rfl⟩ := b2.slice; obtain ⟨a3, k3, rfl⟩ := b3.slice; clear b0 b1 b2 b3; have q0 : w1.cell? ⟨wr.heap.size, 0, none⟩ = some (.slice none 0 0) := hX1.cell 0; have q1 : w1.cell? ⟨wr.heap.size, 1, none⟩ = some (.slice none 0 0) := hX1.cell 1; have q2 : w1.cell? ⟨wr.heap.size, 2, none⟩ = some (.slice none 0 0) := hX1.cell 2; have q3 : w1.cell? ⟨wr.heap.size, 3, none⟩ = some (.slice none 0 0) := hX1.cell 3; have q4 : w1.cell? ⟨wr.heap.size, 4, none⟩ = some (.int .i64 0) := hX1.cell 4; have q0f := hX1.free 0; have q1f := hX1.free 1; have q2f := hX1.free 2; have q3f := hX1.free 3; have q4f := hX1.free 4; have HX1 := hide hX1; have HGA := hide hg; clear hX1 hg)
          | (go_at_call 60; refine HOWNb.out.mono ?_; rintro e w1 ⟨r, rfl, hbe, hg⟩; have HBE := hide hbe; obtain ⟨L0, L1, L2, L3, n0, n1, n2, n3, rfl, ⟨b0, b1, b2, b3⟩, -, -⟩ := hbe; obtain ⟨a0, k0, rfl⟩ := b0.slice; obtain ⟨a1, k1, rfl⟩ := b1.slice; obtain ⟨a2, k2, rfl⟩ := b2.slice; obtain ⟨a3, k3, rfl⟩ := b3.slice; clear b0 b1 b2 b3; have HGB := hide hg; clear hg))
        all_goals first
          | (have f := fin_a HH0.out rfl (by decide) HBE.out HGA.out HX1.out
             clear q0 q1 q2 q3 q4 q0f q1f q2f q3f q4f
             generalize hw2 : (((((w1.setCell ⟨wr.heap.size, 0, none⟩ (.slice a0 n0 k0)).setCell ⟨wr.heap.size, 1, none⟩ (.slice a1 n1 k1)).setCell ⟨wr.heap.size, 2, none⟩ (.slice a2 n2 k2)).setCell ⟨wr.heap.size, 3, none⟩ (.slice a3 n3 k3)).setCell ⟨wr.heap.size, 4, none⟩ (.int .i64 N)) = w2 at *
             clear hw2
             generalize wr.heap.size = X at *
             exact ⟨X, a0, n0, k0, a1, n1, k1, a2, n2, k2, a3, n3, k3, w2, f, rfl, rfl⟩)
          | (have f := fin_b (RT := 66) HH0.out HBE.out HGB.out
             generalize hw2 : (w1.alloc (.cells #[.slice a0 n0 k0, .slice a1 n1 k1, .slice a2 n2 k2, .slice a3 n3 k3, .int .i64 N] 66)) = w2 at *
             clear hw2
             generalize w1.heap.size = X at *
             exact ⟨X, a0, n0, k0, a1, n1, k1, a2, n2, k2, a3, n3, k3, w2, f, rfl, rfl⟩)
      rintro X a0 n0 k0 a1 n1 k1 a2 n2 k2 a3 n3 k3 w2 ⟨hbe, hg, hX, hXl⟩
      rw [HH0.out] at hbe hXl
      clear hlc c4
      have HBE := hide hbe
      have HG := hide hg
      have HXB2 := hide hX
      have hz2 := hg.size
      have hXlt := hX.lt
      have hSk : Hid (∀ q, S1 q → w2.heap[q]? = wr.heap[q]?) := fun q hq => HG.out.block q (HS.out q hq).2 (fun e => HXNS.out q e.symm hq)
      have c4 : w2.cell? ⟨W, 4, none⟩ = some (.slice va N vc) := (show Blk _ W _ _ from (hSk.out W HSW1.out).trans HW.out).cell 4
      have c4f : w2.frozen? ⟨W, 4, none⟩ = false := (show Blk _ W _ _ from (hSk.out W HSW1.out).trans HW.out).free 4
      have hwl2 : W < w2.heap.size := by omega
      have x0 : w2.cell? ⟨X, 0, none⟩ = some (.slice a0 n0 k0) := hX.cell 0
      have x1 : w2.cell? ⟨X, 1, none⟩ = some (.slice a1 n1 k1) := hX.cell 1
      have x2 : w2.cell? ⟨X, 2, none⟩ = some (.slice a2 n2 k2) := hX.cell 2
      have x3 : w2.cell? ⟨X, 3, none⟩ = some (.slice a3 n3 k3) := hX.cell 3
      have x4 : w2.cell? ⟨X, 4, none⟩ = some (.int .i64 N) := hX.cell 4
      clear hbe hg hX
      have hSb : Hid (∀ q, S1 q → (w2.alloc (.cells #[.slice a0 n0 k0, .slice a1 n1 k1, .slice a2 n2 k2, .slice a3 n3 k3, .int .i64 N] 66)).drew.heap[q]? = wr.heap[q]?) := fun q hq => (Below.heap_alloc w2 _ q (by have := (HS.out q hq).2; omega)).trans (hSk.out q hq)
      have HO : Hid ((w2.alloc (.cells #[.slice a0 n0 k0, .slice a1 n1 k1, .slice a2 n2 k2, .slice a3 n3 k3, .int .i64 N] 66)).drew.ownsRow B 66 5 (.slice va N vc) N es0.flatten) := owns_same HE0.out.1 fun q hq => hSb.out q (HE0.out.2.2.1 q hq)
      have HNEW : Hid (∀ (j : Nat) (u : Value), [.slice a0 n0 k0, .slice a1 n1 k1, .slice a2 n2 k2, .slice a3 n3 k3, Value.int .i64 N][j]? = some u → (w2.alloc (.cells #[.slice a0 n0 k0, .slice a1 n1 k1, .slice a2 n2 k2, .slice a3 n3 k3, .int .i64 N] 66)).drew.cell? ((⟨w2.heap.size, 0, none⟩ : Addr).add j) = some u) := by
        intro j u hj
        exact new_cells w2 [.slice a0 n0 k0, .slice a1 n1 k1, .slice a2 n2 k2, .slice a3 n3 k3, Value.int .i64 N] 66 w2.heap.size rfl j u hj
      have HONE : Hid (∀ u ∈ [Value.slice a0 n0 k0, .slice a1 n1 k1, .slice a2 n2 k2, .slice a3 n3 k3, Value.int .i64 N], u.oneCell' = true) := by
        intro u hu
        simp at hu
        rcases hu with rfl | rfl | rfl | rfl | rfl <;> rfl
      have HBW : Hid (Blk (w2.alloc (.cells #[.slice a0 n0 k0, .slice a1 n1 k1, .slice a2 n2 k2, .slice a3 n3 k3, .int .i64 N] 66)).drew W #[ps, vb, vi, ve, .slice va N vc, vt] 36) := (hSb.out W HSW1.out).trans HW.out
      go_wp2_with fail
      apply wp_some3 (fun (ya : Option Addr) (yc : Nat) (w4 : World) => w4.ownsRow B 66 5 (.slice ya (N + 1) yc) (N + 1) (es0.flatten ++ [.slice a0 n0 k0, .slice a1 n1 k1, .slice a2 n2 k2, .slice a3 n3 k3, Value.int .i64 N]) ∧ (w2.alloc (.cells #[.slice a0 n0 k0, .slice a1 n1 k1, .slice a2 n2 k2, .slice a3 n3 k3, .int .i64 N] 66)).drew.grownBy w4 (Value.slice va N vc).ownBlock ∧ ((Value.slice ya (N + 1) yc).ownBlock = (Value.slice va N vc).ownBlock ∨ (Value.slice ya (N + 1) yc).ownBlock = some (w2.alloc (.cells #[.slice a0 n0 k0, .slice a1 n1 k1, .slice a2 n2 k2, .slice a3 n3 k3, .int .i64 N] 66)).drew.heap.size))
      case h =>
        go_region_law (first | (refine step_append_own rfl (.tmp 28) (.tmp 30) 31 rfl B 66 i0 (.agg #[.slice none 0 0, .slice none 0 0, .slice none 0 0, .slice none 0 0, .int .i64 0]) 5 104 Tryz.underlying31 HI.out.1 HI.out.2.1 HI.out.2.2.1 HI.out.2.2.2 rfl (by decide) (.slice va N vc) N es0.flatten (by simp [Act.eval]) HO.out ⟨w2.heap.size, 0, none⟩ 1 1 [.slice a0 n0 k0, .slice a1 n1 k1, .slice a2 n2 k2, .slice a3 n3 k3, .int .i64 N] (by simp [Act.eval]) rfl HNEW.out HONE.out (by decide) (by unfold maxLen; omega) (by omega) (by simp; omega) ?_; intro v1 w4 hown hgrow hat; obtain ⟨ya, yc, rfl⟩ := owns_slice hown; have hbw4 := HBW.out.kept (KeepBut.grown hgrow HO.out (Nat.le_refl _)) (by decide); have d1 : w4.cell? ⟨W, 4, none⟩ = some (.slice va N vc) := hbw4.cell 4; have d1f := hbw4.free 4; have HOW := hide hown; have HGR := hide hgrow; have HAT := hide hat; clear hown hgrow hat hbw4))
        all_goals exact ⟨ya, yc, w4, ⟨HOW.out, HGR.out, HAT.out⟩, rfl, rfl⟩
      rintro ya yc w4 ⟨how, hgr, hat⟩
      have HH3 : Hid (Below w2.heap.size w2 (w2.alloc (.cells #[.slice a0 n0 k0, .slice a1 n1 k1, .slice a2 n2 k2, .slice a3 n3 k3, .int .i64 N] 66)).drew) := ((Below.refl _ _).alloc (Nat.le_refl _) _).drew
      have HOW := hide how; have HGR := hide hgr; have HAT := hide hat
      clear how hgr hat c4 c4f x0 x1 x2 x3 x4

      have HPOST := hide (book_postL HS.out HSW1.out (by omega) HW.out HEb.out HEi.out HEe.out HEt.out HE0.out.1 HE0.out.2.1 HE0.out.2.2.1 HE0.out.2.2.2 HXNS.out HXB.out HBE.out HG.out HH3.out HOW.out HGR.out HAT.out)
      go_wp2
      go_roundw
      case rel =>
        obtain ⟨S2, p1, p2, p3, p4⟩ := HPOST.out
        have hNe : N + 1 = nl + (k + 1) := by have := HNL.out; omega
        refine ⟨k + 1, S2, by go_num, by omega, by rw [← hNe]; exact p1, fun q hq => p2 q (HS1.out q hq), fun q hq => ?_, ?_⟩
        · rcases p3 q hq with h | h | h
          · rcases HS2.out q h with h | ⟨j, e, hj, he, hb⟩ | h
            · exact .inl h
            · exact .inr (.inl ⟨j, e, by omega, he, hb⟩)
            · exact .inr (.inr h)
          · exact .inr (.inl ⟨k, _, by omega, HX.out, h⟩)
          · exact .inr (.inr (by omega))
        · refine (HFR.out.mono (Y := fun q => S q ∨ ∃ j e, j < k + 1 ∧ es[j]? = some e ∧ e.2.2.ownBlock = some q) ?_).trans (by simpa using p4) ?_
          · rintro q _ (h | ⟨j, e, hj, he, hb⟩)
            · exact .inl h
            · exact .inr ⟨j, e, by omega, he, hb⟩
          · intro q hq h
            rcases h with h | h
            · rcases HS2.out q h with h | ⟨j, e, hj, he, hb⟩ | h
              · exact .inl h
              · exact .inr ⟨j, e, by omega, he, hb⟩
              · omega
            · exact .inr ⟨k, _, by omega, HX.out, h⟩
      case measure => simp [intOf]; omega
    · obtain rfl : k = n := by omega
      have HLNS : Hid (∀ g, (Value.slice la k lc).ownBlock = some g → ¬ S1 g) := by
        intro g hg h1
        rcases HS2.out g h1 with h | ⟨j, e, hj, he, hb⟩ | h
        · exact HL.out g hg h
        · obtain ⟨c1, q1⟩ := HLT.out g hg
          obtain ⟨c2, q2⟩ := HET.out e (List.mem_of_getElem? he) g hb
          exact absurd (q1.inj q2).2 (by decide)
        · have := (HLO.out g hg).2; omega
      have HLB : Hid (∀ g, (Value.slice la k lc).ownBlock = some g → B ≤ g ∧ g < wr.heap.size) := World.ownsRow.lt HOr.out
      obtain ⟨es0, o1, o2, o3, o4⟩ := Et
      have HE0 := hide (And.intro o1 (And.intro o2 (And.intro o3 o4)))
      obtain ⟨va, vc, hvt⟩ := HEt.out.slice
      subst hvt
      have HOWN := hide (ownTasks_any (.slice la k lc) k nt (flat3 es) wr (owns_zero HOr.out) hn hnt)
      have c5 : wr.cell? ⟨W, 5, none⟩ = some (.slice va nt vc) := HW.out.cell 5
      clear o1 o2 o3 o4
      go_wp2_with fail
      refine HOWN.out.mono ?_
      rintro e w1 ⟨r, rfl, hbe, hg⟩
      obtain ⟨L0, L1, L2, L3, n0, n1, n2, n3, hr, ⟨b0, b1, b2, b3⟩, hbn, hbs⟩ := hbe
      subst hr
      obtain ⟨a0, k0, rfl⟩ := b0.slice
      obtain ⟨a1, k1, rfl⟩ := b1.slice
      obtain ⟨a2, k2, rfl⟩ := b2.slice
      obtain ⟨a3, k3, rfl⟩ := b3.slice
      have HBE1 : Hid (Bears w1 (fun q => some q = (Value.slice la k lc).ownBlock ∨ wr.heap.size ≤ q) 55 3 (markT nt) (.agg #[.slice a0 n0 k0, .slice a1 n1 k1, .slice a2 n2 k2, .slice a3 n3 k3, .int .i64 nt]) nt) := ⟨_, _, _, _, _, _, _, _, rfl, ⟨b0, b1, b2, b3⟩, hbn, hbs⟩
      have HG1 := hide hg
      clear b0 b1 b2 b3 hbn hbs hg c5
      have f := fin_b (w := wr) (RT := 68) (H := wr.heap.size) rfl HBE1.out ⟨HG1.out.os, HG1.out.tape, HG1.out.output, HG1.out.size, HG1.out.block⟩
      have HF := hide f
      clear f
      simp only []
      go_wp2_with fail
      generalize hw2 : w1.alloc (.cells #[.slice a0 n0 k0, .slice a1 n1 k1, .slice a2 n2 k2, .slice a3 n3 k3, .int .i64 nt] 68) = w2 at *
      generalize hXe : w1.heap.size = X at *
      clear hw2 hXe
      obtain ⟨hbe, hg, hX, hXl⟩ := HF.out
      have HBE := hide hbe
      have HG := hide hg
      have HXB2 := hide hX
      have hz2 := hg.size
      have hXlt := hX.lt
      have hSk : Hid (∀ q, S1 q → w2.heap[q]? = wr.heap[q]?) := fun q hq => HG.out.block q (HS.out q hq).2 (fun e => HLNS.out q e.symm hq)
      have c4 : w2.cell? ⟨W, 5, none⟩ = some (.slice va nt vc) := (show Blk _ W _ _ from (hSk.out W HSW1.out).trans HW.out).cell 5
      have c4f : w2.frozen? ⟨W, 5, none⟩ = false := (show Blk _ W _ _ from (hSk.out W HSW1.out).trans HW.out).free 5
      have hwl2 : W < w2.heap.size := by omega
      have x0 : w2.cell? ⟨X, 0, none⟩ = some (.slice a0 n0 k0) := hX.cell 0
      have x1 : w2.cell? ⟨X, 1, none⟩ = some (.slice a1 n1 k1) := hX.cell 1
      have x2 : w2.cell? ⟨X, 2, none⟩ = some (.slice a2 n2 k2) := hX.cell 2
      have x3 : w2.cell? ⟨X, 3, none⟩ = some (.slice a3 n3 k3) := hX.cell 3
      have x4 : w2.cell? ⟨X, 4, none⟩ = some (.int .i64 nt) := hX.cell 4
      clear hbe hg hX
      have hSb : Hid (∀ q, S1 q → (w2.alloc (.cells #[.slice a0 n0 k0, .slice a1 n1 k1, .slice a2 n2 k2, .slice a3 n3 k3, .int .i64 nt] 68)).drew.heap[q]? = wr.heap[q]?) := fun q hq => (Below.heap_alloc w2 _ q (by have := (HS.out q hq).2; omega)).trans (hSk.out q hq)
      have HOO : Hid ((w2.alloc (.cells #[.slice a0 n0 k0, .slice a1 n1 k1, .slice a2 n2 k2, .slice a3 n3 k3, .int .i64 nt] 68)).drew.ownsRow B 68 5 (.slice va nt vc) nt es0.flatten) := owns_same HE0.out.1 fun q hq => hSb.out q (HE0.out.2.2.1 q hq)
      have HNEW : Hid (∀ (j : Nat) (u : Value), [.slice a0 n0 k0, .slice a1 n1 k1, .slice a2 n2 k2, .slice a3 n3 k3, Value.int .i64 nt][j]? = some u → (w2.alloc (.cells #[.slice a0 n0 k0, .slice a1 n1 k1, .slice a2 n2 k2, .slice a3 n3 k3, .int .i64 nt] 68)).drew.cell? ((⟨w2.heap.size, 0, none⟩ : Addr).add j) = some u) := by
        intro j u hj
        exact new_cells w2 [.slice a0 n0 k0, .slice a1 n1 k1, .slice a2 n2 k2, .slice a3 n3 k3, Value.int .i64 nt] 68 w2.heap.size rfl j u hj
      have HONE : Hid (∀ u ∈ [Value.slice a0 n0 k0, .slice a1 n1 k1, .slice a2 n2 k2, .slice a3 n3 k3, Value.int .i64 nt], u.oneCell' = true) := by
        intro u hu
        simp at hu
        rcases hu with rfl | rfl | rfl | rfl | rfl <;> rfl
      have HBW : Hid (Blk (w2.alloc (.cells #[.slice a0 n0 k0, .slice a1 n1 k1, .slice a2 n2 k2, .slice a3 n3 k3, .int .i64 nt] 68)).drew W #[ps, vb, vi, ve, vl, .slice va nt vc] 36) := (hSb.out W HSW1.out).trans HW.out
      try (go_wp2_with fail)
      apply wp_some3 (fun (ya : Option Addr) (yc : Nat) (w4 : World) => w4.ownsRow B 68 5 (.slice ya (nt + 1) yc) (nt + 1) (es0.flatten ++ [.slice a0 n0 k0, .slice a1 n1 k1, .slice a2 n2 k2, .slice a3 n3 k3, Value.int .i64 nt]) ∧ (w2.alloc (.cells #[.slice a0 n0 k0, .slice a1 n1 k1, .slice a2 n2 k2, .slice a3 n3 k3, .int .i64 nt] 68)).drew.grownBy w4 (Value.slice va nt vc).ownBlock ∧ ((Value.slice ya (nt + 1) yc).ownBlock = (Value.slice va nt vc).ownBlock ∨ (Value.slice ya (nt + 1) yc).ownBlock = some (w2.alloc (.cells #[.slice a0 n0 k0, .slice a1 n1 k1, .slice a2 n2 k2, .slice a3 n3 k3, .int .i64 nt] 68)).drew.heap.size))
      case h =>
        go_region_law (first | (refine step_append_own rfl (.tmp 45) (.tmp 47) 32 rfl B 68 i1 (.agg #[.slice none 0 0, .slice none 0 0, .slice none 0 0, .slice none 0 0, .int .i64 0]) 5 104 Tryz.underlying32 HI1.out.1 HI1.out.2.1 HI1.out.2.2.1 HI1.out.2.2.2 rfl (by decide) (.slice va nt vc) nt es0.flatten (by simp [Act.eval]) HOO.out ⟨w2.heap.size, 0, none⟩ 1 1 [.slice a0 n0 k0, .slice a1 n1 k1, .slice a2 n2 k2, .slice a3 n3 k3, .int .i64 nt] (by simp [Act.eval]) rfl HNEW.out HONE.out (by decide) (by unfold maxLen; omega) (by omega) (by simp; omega) ?_; intro v1 w4 hown hgrow hat; obtain ⟨ya, yc, rfl⟩ := owns_slice hown; have hbw4 := HBW.out.kept (KeepBut.grown hgrow HOO.out (Nat.le_refl _)) (by decide); have d1 : w4.cell? ⟨W, 5, none⟩ = some (.slice va nt vc) := hbw4.cell 5; have d1f := hbw4.free 5; have HOW := hide hown; have HGR := hide hgrow; have HAT := hide hat; clear hown hgrow hat hbw4))
        all_goals exact ⟨ya, yc, w4, ⟨HOW.out, HGR.out, HAT.out⟩, rfl, rfl⟩
      rintro ya yc w4 ⟨how, hgr, hat⟩
      have HH3 : Hid (Below w2.heap.size w2 (w2.alloc (.cells #[.slice a0 n0 k0, .slice a1 n1 k1, .slice a2 n2 k2, .slice a3 n3 k3, .int .i64 nt] 68)).drew) := ((Below.refl _ _).alloc (Nat.le_refl _) _).drew
      have HOW := hide how; have HGR := hide hgr; have HAT := hide hat
      clear how hgr hat c4 c4f x0 x1 x2 x3 x4

      have HPOST := hide (book_postT HS.out HSW1.out (by omega) HW.out HEb.out HEi.out HEe.out HEl.out HE0.out.1 HE0.out.2.1 HE0.out.2.2.1 HE0.out.2.2.2 HLNS.out HLB.out HBE.out HG.out HH3.out HOW.out HGR.out HAT.out)
      go_wp2
      go_end0
      obtain ⟨S2, p1, p2, p3, p4⟩ := HPOST.out
      refine ⟨rfl, S2, p1, fun q hq => p2 q (HS1.out q hq), fun q hq => ?_, ?_⟩
      · rcases p3 q hq with h | h | h
        · rcases HS2.out q h with h | ⟨j, e, hj, he, hb⟩ | h
          · exact .inl h
          · exact .inr (.inl (.inr ⟨e, List.mem_of_getElem? he, hb⟩))
          · exact .inr (.inr h)
        · exact .inr (.inl (.inl h))
        · exact .inr (.inr (by omega))
      · refine (HFR.out.mono (Y := fun q => S q ∨ TBk (.slice la k lc) es q) ?_).trans p4 ?_
        · rintro q _ (h | ⟨j, e, hj, he, hb⟩)
          · exact .inl h
          · exact .inr (.inr ⟨e, List.mem_of_getElem? he, hb⟩)
        · intro q hq h
          rcases h with h | h
          · rcases HS2.out q h with h | ⟨j, e, hj, he, hb⟩ | h
            · exact .inl h
            · exact .inr (.inr ⟨e, List.mem_of_getElem? he, hb⟩)
            · omega
          · exact .inr (.inl h)

end Go.Proofs.YthloffgebebijaaGreat

/- Decode: the walk of Decode. -/
namespace Go.Proofs.YthloffgebebijaaGreat
open Go.RowKit

set_option maxRecDepth 100000 in
set_option maxHeartbeats 1600000 in
theorem decode_any (B : Nat) (v : Value) (bs : List Int) (w : World) (h : Rd8 w B v bs) (hB : B ≤ w.heap.size) (hb : AllB bs) (hlen : bs.length ≤ 140737488355328) :
    Calls Tryz.prog 28 #[v] w fun e w' => DecPost (.int .i64 2) (.int .i64 0) w w' e (dec bs) := by
  have hb0 : ∀ o, Below w.heap.size w (w.alloc o) := fun o => (Below.refl _ _).alloc (Nat.le_refl _) _
  have HP := hide (parse_any B v bs (w.alloc (.cells #[.int .i64 0, .int .i64 0, .int .i64 0, .int .i64 0, .int .i64 0, .slice none 0 0] 40)) (h.later (hb0 _) hB) (by simp; omega) hb hlen)
  obtain ⟨a, cap, rfl, -, -⟩ := h
  have HA0 := hide (Blk.new w #[.int .i64 0, .int .i64 0, .int .i64 0, .int .i64 0, .int .i64 0, .slice none 0 0] 40)
  generalize hd : dec bs = d at *
  generalize bs.length = n at *
  clear hd hb
  cases d with
  | none =>
    go_enter Tryz.func28, Tryz.ntmps28
    go_wp2_with fail
    refine HP.out.mono ?_
    rintro e w1 ⟨rfl, q1⟩
    have HA := hide (HA0.out.later q1 (by simp))
    have HB := hide ((hb0 (.cells #[.int .i64 0, .int .i64 0, .int .i64 0, .int .i64 0, .int .i64 0, .slice none 0 0] 40)).trans (q1.mono (by simp)))
    have hz : w.heap.size < w1.heap.size := HA.out.lt
    clear q1 HP HA0 hb0
    unfold zeroCfg
    have ac0 : w1.cell? ⟨w.heap.size, 0, none⟩ = some (.int .i64 0) := HA.out.cell 0
    have af0 := HA.out.free 0
    have ac1 : w1.cell? ⟨w.heap.size, 1, none⟩ = some (.int .i64 0) := HA.out.cell 1
    have af1 := HA.out.free 1
    have ac2 : w1.cell? ⟨w.heap.size, 2, none⟩ = some (.int .i64 0) := HA.out.cell 2
    have af2 := HA.out.free 2
    have ac3 : w1.cell? ⟨w.heap.size, 3, none⟩ = some (.int .i64 0) := HA.out.cell 3
    have af3 := HA.out.free 3
    have ac4 : w1.cell? ⟨w.heap.size, 4, none⟩ = some (.int .i64 0) := HA.out.cell 4
    have af4 := HA.out.free 4
    have ac5 : w1.cell? ⟨w.heap.size, 5, none⟩ = some (.slice none 0 0) := HA.out.cell 5
    have af5 := HA.out.free 5
    simp only []
    repeat (first | go_values | go_skip | go_guarded | go_step | go_upon)
    have HF := ((((((HA.out.set 0 (.int .i64 0)).set 1 (.int .i64 0)).set 2 (.int .i64 0)).set 3 (.int .i64 0)).set 4 (.int .i64 0)).set 5 (.slice none 0 0)).alloc (.cells #[.int .i64 0, .int .i64 0, .int .i64 0, .int .i64 0, .int .i64 0, .slice none 0 0] 40)
    have HF0 := HF.cell 0
    have HF1 := HF.cell 1
    have HF2 := HF.cell 2
    have HF3 := HF.cell 3
    have HF4 := HF.cell 4
    have HF5 := HF.cell 5
    simp at HF0 HF1 HF2 HF3 HF4 HF5
    refine bodyPost_ret (v := .tuple #[zeroCfg, .int .i64 2]) (by simp [results, Tryz.results28, go_sem, zeroCfg, HF0, HF1, HF2, HF3, HF4, HF5]) rfl ⟨rfl, ?_⟩
    exact ((((((HB.out.setCell (Nat.le_refl _) _).setCell (Nat.le_refl _) _).setCell (Nat.le_refl _) _).setCell (Nat.le_refl _) _).setCell (Nat.le_refl _) _).setCell (Nat.le_refl _) _).alloc (by simp; omega) _
  | some c =>
    go_enter Tryz.func28, Tryz.ntmps28
    go_wp2_with fail
    refine HP.out.mono ?_
    rintro e w1 ⟨v1, rfl, o1, q1⟩
    have HA := hide (HA0.out.later q1 (by simp))
    have HB := hide ((hb0 (.cells #[.int .i64 0, .int .i64 0, .int .i64 0, .int .i64 0, .int .i64 0, .slice none 0 0] 40)).trans (q1.mono (by simp)))
    have hz : w.heap.size < w1.heap.size := HA.out.lt
    have HO := hide o1
    obtain ⟨g, rfl⟩ := o1.slice
    obtain ⟨x1, x2, x3, x4, x5, ts⟩ := c
    simp only at HO
    clear q1 HP HA0 hb0 o1
    have ac0 : w1.cell? ⟨w.heap.size, 0, none⟩ = some (.int .i64 0) := HA.out.cell 0
    have af0 := HA.out.free 0
    have ac1 : w1.cell? ⟨w.heap.size, 1, none⟩ = some (.int .i64 0) := HA.out.cell 1
    have af1 := HA.out.free 1
    have ac2 : w1.cell? ⟨w.heap.size, 2, none⟩ = some (.int .i64 0) := HA.out.cell 2
    have af2 := HA.out.free 2
    have ac3 : w1.cell? ⟨w.heap.size, 3, none⟩ = some (.int .i64 0) := HA.out.cell 3
    have af3 := HA.out.free 3
    have ac4 : w1.cell? ⟨w.heap.size, 4, none⟩ = some (.int .i64 0) := HA.out.cell 4
    have af4 := HA.out.free 4
    have ac5 : w1.cell? ⟨w.heap.size, 5, none⟩ = some (.slice none 0 0) := HA.out.cell 5
    have af5 := HA.out.free 5
    simp only []
    repeat (first | go_values | go_skip | go_guarded | go_step | go_upon)
    have HF := ((((((HA.out.set 0 (.int .i64 x1)).set 1 (.int .i64 x2)).set 2 (.int .i64 x3)).set 3 (.int .i64 x4)).set 4 (.int .i64 x5)).set 5 (.slice (some ⟨g, 0, none⟩) ts.length ts.length)).alloc (.cells #[.int .i64 x1, .int .i64 x2, .int .i64 x3, .int .i64 x4, .int .i64 x5, .slice (some ⟨g, 0, none⟩) ts.length ts.length] 40)
    have HF0 := HF.cell 0
    have HF1 := HF.cell 1
    have HF2 := HF.cell 2
    have HF3 := HF.cell 3
    have HF4 := HF.cell 4
    have HF5 := HF.cell 5
    simp at HF0 HF1 HF2 HF3 HF4 HF5
    refine bodyPost_ret (v := .tuple #[.agg #[.int .i64 x1, .int .i64 x2, .int .i64 x3, .int .i64 x4, .int .i64 x5, .slice (some ⟨g, 0, none⟩) ts.length ts.length], .int .i64 0]) (by simp [results, Tryz.results28, go_sem, HF0, HF1, HF2, HF3, HF4, HF5]) rfl ⟨_, rfl, ?_, ?_⟩
    · refine (OwnTasks.kept HO.out fun k hk hk' => ?_).lower (by simp)
      simp only [World.size_alloc] at hk
      rw [Below.heap_alloc _ _ _ (by simp; omega), heap_setCell_other _ _ _ _ (by simp; omega), heap_setCell_other _ _ _ _ (by simp; omega), heap_setCell_other _ _ _ _ (by simp; omega), heap_setCell_other _ _ _ _ (by simp; omega), heap_setCell_other _ _ _ _ (by simp; omega), heap_setCell_other _ _ _ _ (by simp; omega)]
    · exact ((((((HB.out.setCell (Nat.le_refl _) _).setCell (Nat.le_refl _) _).setCell (Nat.le_refl _) _).setCell (Nat.le_refl _) _).setCell (Nat.le_refl _) _).setCell (Nat.le_refl _) _).alloc (by simp; omega) _

end Go.Proofs.YthloffgebebijaaGreat

/- DecA: what comes out of Decode, as the book takes it; a string turned into bytes. -/
namespace Go.Proofs.YthloffgebebijaaGreat
open Go.RowKit

theorem flat3_len (es : List (Int × Int × Value)) : (flat3 es).length = es.length * 3 := by
  induction es with
  | nil => rfl
  | cons a r ih => simp [flat3] at ih ⊢; omega

theorem OwnLims.owns {w : World} {base : Nat} {v : Value} {ls : List (Int × Int)} (h : OwnLims w base v ls) (hn : ls.length ≤ maxLen) : w.ownsRow base 52 2 v ls.length (flat2 ls) := by
  obtain ⟨g, rfl, hg, hb⟩ := h
  refine ⟨by rw [flat2_length]; omega, .inr ⟨g, ls.length, (flat2 ls).toArray, rfl, hg, hb, Nat.le_refl _, hn, by simp [flat2_length]; omega, ?_⟩⟩
  simp only []
  rw [List.take_of_length_le (by rw [flat2_length]; omega)]

/-- What the book wants of tasks that came out. -/
theorem OwnTasks.bk {w : World} {base : Nat} {v : Value} {ts : List Tk} (h : OwnTasks w base v ts) (hn : ts.length ≤ 6) (hl : ∀ t ∈ ts, t.lims.length ≤ 3) :
    ∃ es, w.ownsRow base 55 3 v es.length (flat3 es) ∧ es.length = ts.length ∧ (∀ e ∈ es, ∃ n xs, w.ownsRow base 52 2 e.2.2 n xs ∧ n ≤ 3) ∧ Apart es := by
  obtain ⟨g, es, rfl, hg, hb, hle, hr, ha⟩ := h
  refine ⟨es, ⟨flat3_len es, .inr ⟨g, ts.length, (flat3 es).toArray, by rw [hle], hg, hb, by omega, by unfold maxLen; omega, by simp [flat3_len, hle], ?_⟩⟩, hle, fun e he => ?_, ha⟩
  · simp only []
    rw [List.take_of_length_le (by rw [flat3_len]; omega)]
  · obtain ⟨i, hi⟩ := List.getElem?_of_mem he
    obtain ⟨t, ht⟩ := get_of_lt (l := ts) (k := i) (by have := lt_of_get hi; omega)
    have h3 := hl t (List.mem_of_getElem? ht)
    exact ⟨_, _, (hr i e t hi ht).2.2.owns (by unfold maxLen; omega), h3⟩

theorem TBk.range {w : World} {base : Nat} {v : Value} {es : List (Int × Int × Value)} (h : w.ownsRow base 55 3 v es.length (flat3 es)) (he : ∀ e ∈ es, ∃ n xs, w.ownsRow base 52 2 e.2.2 n xs ∧ n ≤ 3) {k : Nat} (hk : TBk v es k) : base ≤ k ∧ k < w.heap.size := by
  rcases hk with hk | ⟨e, hm, hk⟩
  · exact World.ownsRow.lt h k hk
  · obtain ⟨n, xs, ho, _⟩ := he e hm
    exact World.ownsRow.lt ho k hk

/-- A string turned into bytes. -/
theorem conv_str (s : ByteArray) (w : World) : ∃ cap W, (convert 9 57 (.string s)).run Tryz.prog w = .ok (.slice (some ⟨w.heap.size, 0, none⟩) s.size cap) W ∧ Below w.heap.size w W ∧ Rd8 W W.heap.size (.slice (some ⟨w.heap.size, 0, none⟩) s.size cap) (sbytes s) := by
  refine ⟨_, _, run_bytes_of_string (P := Tryz.prog) w 9 57 5 s Tryz.underlying9 Tryz.underlying57 Tryz.underlying5, ?_, ?_⟩
  · exact (show Below w.heap.size w w.drew from (Below.refl _ _).drew).alloc (Nat.le_refl _) _
  · refine ⟨_, _, by rw [sbytes_length], by rw [sbytes_length]; exact grownCap_ge w s.size 0 _, .inr ⟨w.heap.size, 0, rfl, by simp, fun i x hi => ?_⟩⟩
    rw [Nat.zero_add, cell_of_row _ w.heap.size i _ _ _ (heap_alloc_new w.drew _)]
    have hlt := lt_of_get hi
    rw [sbytes_length] at hlt
    unfold bytesRow
    rw [Array.getElem?_append_left (by rw [Array.size_map]; exact hlt)]
    simp only [sbytes, List.getElem?_map, Array.getElem?_toList] at hi
    rw [Array.getElem?_map]
    cases hd : s.data[i]? with
    | none => rw [hd] at hi; simp at hi
    | some y => rw [hd] at hi; simp at hi; subst hi; rfl

/-- What is decoded, as two results. -/
def dval : Option Cfg → Cfg × Int
  | none => (⟨0, 0, 0, 0, 0, []⟩, 2)
  | some c => (c, 0)

/-- Tasks that came out: none at all, or a list of the call's own. -/
def Out (w : World) (base : Nat) (v : Value) (ts : List Tk) : Prop := (v = .slice none 0 0 ∧ ts = []) ∨ OwnTasks w base v ts

theorem Out.kept {w w' : World} {base : Nat} {v : Value} {ts : List Tk} (h : Out w base v ts) (hf : ∀ k, base ≤ k → k < w.heap.size → w'.heap[k]? = w.heap[k]?) : Out w' base v ts := h.imp id fun h => h.kept hf
theorem Out.below {w w' : World} {base : Nat} {v : Value} {ts : List Tk} (h : Out w base v ts) (hb : Below w.heap.size w w') : Out w' base v ts := h.kept fun k _ hk => hb.block k hk
theorem Out.slice {w : World} {base : Nat} {v : Value} {ts : List Tk} (h : Out w base v ts) : ∃ a c, v = .slice a ts.length c := by
  rcases h with ⟨rfl, rfl⟩ | h
  · exact ⟨none, 0, rfl⟩
  · obtain ⟨g, hg⟩ := h.slice
    exact ⟨_, _, hg⟩
theorem Out.tasks {w : World} {base : Nat} {v : Value} {ts : List Tk} (h : Out w base v ts) : Tasks w w.heap.size v ts := by
  rcases h with ⟨rfl, rfl⟩ | h
  · exact ⟨none, 0, rfl, .inl rfl⟩
  · exact h.tasks
theorem Out.bk {w : World} {base : Nat} {v : Value} {ts : List Tk} (h : Out w base v ts) (hn : ts.length ≤ 6) (hl : ∀ t ∈ ts, t.lims.length ≤ 3) :
    ∃ es, w.ownsRow base 55 3 v es.length (flat3 es) ∧ es.length = ts.length ∧ (∀ e ∈ es, ∃ n xs, w.ownsRow base 52 2 e.2.2 n xs ∧ n ≤ 3) ∧ Apart es := by
  rcases h with ⟨rfl, rfl⟩ | h
  · exact ⟨[], World.ownsRow_nil _ _ _ _, rfl, fun e he => by simp at he, List.Pairwise.nil⟩
  · exact h.bk hn hl

theorem decode_two (B : Nat) (v : Value) (bs : List Int) (w : World) (h : Rd8 w B v bs) (hB : B ≤ w.heap.size) (hb : AllB bs) (hlen : bs.length ≤ 140737488355328) :
    Calls Tryz.prog 28 #[v] w fun e w' => ∃ tv, e = .returned (.tuple #[.agg #[.int .i64 (dval (dec bs)).1.lines, .int .i64 (dval (dec bs)).1.room, .int .i64 (dval (dec bs)).1.poll, .int .i64 (dval (dec bs)).1.idle, .int .i64 (dval (dec bs)).1.sw, tv], .int .i64 (dval (dec bs)).2]) ∧ Out w' w.heap.size tv (dval (dec bs)).1.tasks ∧ Below w.heap.size w w' := by
  refine (decode_any B v bs w h hB hb hlen).mono ?_
  intro e w' hp
  cases hd : dec bs with
  | none =>
    rw [hd] at hp
    exact ⟨.slice none 0 0, hp.1, .inl ⟨rfl, rfl⟩, hp.2⟩
  | some c =>
    rw [hd] at hp
    obtain ⟨v, he, ho, hb⟩ := hp
    exact ⟨v, he, .inr ho, hb⟩

theorem dval_small {bs : List Int} (hb : AllB bs) : (dval (dec bs)).1.tasks.length ≤ 6 ∧ ∀ t ∈ (dval (dec bs)).1.tasks, t.lims.length ≤ 3 := by
  cases hd : dec bs with
  | none => exact ⟨by simp [dval], fun t ht => by simp [dval] at ht⟩
  | some c =>
    have hc := cfgOk_parts (dec_inv hb hd).1
    obtain ⟨-, -, -, -, -, h6, h7⟩ := hc
    refine ⟨h6.2, fun t ht => ?_⟩
    have := List.all_eq_true.1 h7 t ht
    simp only [taskOk, limsOk, Bool.and_eq_true, decide_eq_true_eq] at this
    exact this.2.2.1.2

/-- A piece of code that comes, on every way, to one frame and to some world. -/
theorem wp_some1 {P : Program} {c : Code} {Q : Exit → Act → World → Prop} {a : Act} {w : World} (F : World → Prop) (A : World → Act) (W : World → World)
    (h : c.wp P (OnlyNormal fun a' w' => ∃ z, F z ∧ a' = A z ∧ w' = W z) a w) (h2 : ∀ z, F z → Q .normal (A z) (W z)) : c.wp P Q a w :=
  wp_mono h (OnlyNormal.imp (by rintro a' w' ⟨z, hf, rfl, rfl⟩; exact h2 z hf))

end Go.Proofs.YthloffgebebijaaGreat

/- DecW: the walk of tillerlaw's (*World).decode. -/
namespace Go.Proofs.YthloffgebebijaaGreat
open Go.RowKit

theorem refDecode_two (B : Nat) (v : Value) (bs : List Int) (w : World) (h : Rd8 w B v bs) (hB : B ≤ w.heap.size) (hb : AllB bs) (hlen : bs.length ≤ 1000000000) :
    Calls Tryz.prog 30 #[v] w fun e w' => ∃ dv, e = .returned (.tuple #[dv, .int .i64 (dval (dec bs)).2]) ∧ Cf w' w'.heap.size dv (dval (dec bs)).1 ∧ Below w.heap.size w w' := by
  refine (refDecode_any B v bs w h hB hb hlen).mono ?_
  intro e w' hp
  cases hd : dec bs with
  | none =>
    rw [hd] at hp
    exact ⟨zeroCfg, hp.1, ⟨_, rfl, none, 0, rfl, .inl rfl⟩, hp.2⟩
  | some c =>
    rw [hd] at hp
    exact hp

set_option maxRecDepth 100000 in
set_option maxHeartbeats 6400000 in
theorem decodeW_true (S : Nat → Prop) (B0 B W : Nat) (ps : Value) (nb ni ne nl nt : Nat) (v : Value) (o : Stp) (w : World) (h : BookAt w S B W ps nb ni ne nl nt) (hB : B ≤ w.heap.size) (hv : Op1 w B0 v o) (_hB0 : B0 ≤ w.heap.size) (hok : StpOk o) (hnl : nl ≤ 100000000) (hnt : nt ≤ 100000000) :
    Calls Tryz.prog 12 #[.pointer (some ⟨W, 0, none⟩), v] w fun e w' => e = .returned (.bool true) ∧ ∃ S' nl', nl' ≤ nl + 12 ∧ BookAt w' S' B W ps nb ni ne nl' (nt + 2) ∧ Below B w w' ∧ Takes w w' S S' := by
  obtain ⟨t, rfl, ht⟩ := hv
  obtain ⟨kind, a, b, c, s, cfg⟩ := o
  obtain ⟨x1, x2, x3, x4, x5, ts⟩ := cfg
  obtain ⟨hs, hl, hl2⟩ := hok
  simp only at ht hs hl hl2 ⊢
  have HBK := hide h
  obtain ⟨ta, tc, rfl⟩ := ht.slice
  have HS : Hid (∀ k, S k → B ≤ k ∧ k < w.heap.size) := h.1
  have HSW : Hid (S W) := h.2.1
  have HB1 : Hid (Below w.heap.size w (w.alloc (.cells #[.int .i64 kind, .int .i64 a, .int .i64 b, .int .i64 c, .string s, .int .i64 x1, .int .i64 x2, .int .i64 x3, .int .i64 x4, .int .i64 x5, .slice ta ts.length tc] 43))) := (Below.refl _ _).alloc (Nat.le_refl _) _
  have HSL : Hid ((sbytes s).length = s.size) := sbytes_length s
  clear h ht hl2
  go_enter Tryz.func12, Tryz.ntmps12
  go_wp2_with fail
  refine (lent_any s _ _ (by omega)).mono ?_
  rintro e w1 ⟨bv, rfl, hlb, q1⟩
  have hzo : (w.alloc (.cells #[.int .i64 kind, .int .i64 a, .int .i64 b, .int .i64 c, .string s, .int .i64 x1, .int .i64 x2, .int .i64 x3, .int .i64 x4, .int .i64 x5, .slice ta ts.length tc] 43)).heap.size = w.heap.size + 1 := by simp
  rw [hzo] at q1 hlb
  have HLB1 := hide hlb
  have HO1 := hide ((Blk.new w #[.int .i64 kind, .int .i64 a, .int .i64 b, .int .i64 c, .string s, .int .i64 x1, .int .i64 x2, .int .i64 x3, .int .i64 x4, .int .i64 x5, .slice ta ts.length tc] 43).later q1 (by simp))
  have HBW1 : Hid (Below w.heap.size w w1) := HB1.out.trans (q1.mono (by omega))
  have hz1 := q1.size
  obtain ⟨bva, bvc, hbv⟩ : ∃ x y, bv = .slice x s.size y := by
    rcases hlb with ⟨rfl, h0⟩ | ⟨g, rfl, _⟩
    · exact ⟨none, 0, by rw [h0]⟩
    · exact ⟨_, _, rfl⟩
  subst hbv
  clear q1 hlb
  have HDS := hide (dval_small (sbytes_all s))
  have HD2 : Hid (∀ (w' : World), Rd8 w' w'.heap.size (.slice bva s.size bvc) (sbytes s) → Calls Tryz.prog 28 #[.slice bva s.size bvc] w' fun e w'' => ∃ tv, e = .returned (.tuple #[.agg #[.int .i64 (dval (dec (sbytes s))).1.lines, .int .i64 (dval (dec (sbytes s))).1.room, .int .i64 (dval (dec (sbytes s))).1.poll, .int .i64 (dval (dec (sbytes s))).1.idle, .int .i64 (dval (dec (sbytes s))).1.sw, tv], .int .i64 (dval (dec (sbytes s))).2]) ∧ Out w'' w'.heap.size tv (dval (dec (sbytes s))).1.tasks ∧ Below w'.heap.size w' w'') := fun w' hr => decode_two _ _ (sbytes s) w' hr (Nat.le_refl _) (sbytes_all s) (by rw [sbytes_length]; omega)
  have HRD : Hid (∀ (w' : World) (v : Value), Rd8 w' w'.heap.size v (sbytes s) → Calls Tryz.prog 30 #[v] w' fun e w'' => ∃ dv, e = .returned (.tuple #[dv, .int .i64 (dval (dec (sbytes s))).2]) ∧ Cf w'' w''.heap.size dv (dval (dec (sbytes s))).1 ∧ Below w'.heap.size w' w'') := fun w' v hr => refDecode_two _ v (sbytes s) w' hr (Nat.le_refl _) (sbytes_all s) (by rw [sbytes_length]; omega)
  generalize hdv : dval (dec (sbytes s)) = dv at *
  obtain ⟨⟨y1, y2, y3, y4, y5, us⟩, er⟩ := dv
  simp only at HDS HD2 HRD
  clear hdv
  go_wp2_with fail
  refine (HD2.out w1 HLB1.out.rd).mono ?_
  rintro e w2 ⟨tv2, rfl, o2, q2⟩
  obtain ⟨t2a, t2c, ht2⟩ := o2.slice
  subst ht2
  have HO2 := hide o2
  have HLB2 := hide (HLB1.out.below q2)
  have HOP2 := hide (HO1.out.later q2 (by omega))
  have HBW2 : Hid (Below w.heap.size w w2) := HBW1.out.trans (q2.mono (by omega))
  have hz2 := q2.size
  clear q2 o2
  go_wp2_with fail
  have HN2 := hide (Blk.new w2 #[.int .i64 y1, .int .i64 y2, .int .i64 y3, .int .i64 y4, .int .i64 y5, .slice t2a us.length t2c] 40)
  have HA2 : Hid (Below w2.heap.size w2 (w2.alloc (.cells #[.int .i64 y1, .int .i64 y2, .int .i64 y3, .int .i64 y4, .int .i64 y5, .slice t2a us.length t2c] 40))) := (Below.refl _ _).alloc (Nat.le_refl _) _
  have hz2a : (w2.alloc (.cells #[.int .i64 y1, .int .i64 y2, .int .i64 y3, .int .i64 y4, .int .i64 y5, .slice t2a us.length t2c] 40)).heap.size = w2.heap.size + 1 := by simp
  generalize hW2 : w2.alloc (.cells #[.int .i64 y1, .int .i64 y2, .int .i64 y3, .int .i64 y4, .int .i64 y5, .slice t2a us.length t2c] 40) = w2a at *
  clear hW2
  refine (HD2.out w2a (HLB2.out.below HA2.out).rd).mono ?_
  rintro e w3 ⟨tv3, rfl, o3, q3⟩
  obtain ⟨t3a, t3c, ht3⟩ := o3.slice
  subst ht3
  have HO3 := hide o3
  have HO23 := hide ((HO2.out.below HA2.out).below q3)
  have HN23 := hide (HN2.out.later q3 (by omega))
  have HLB3 := hide ((HLB2.out.below HA2.out).below q3)
  have HOP3 := hide ((HOP2.out.later HA2.out (by omega)).later q3 (by omega))
  have HBW3 : Hid (Below w.heap.size w w3) := (HBW2.out.trans (HA2.out.mono (by omega))).trans (q3.mono (by omega))
  have hz3 := q3.size
  have HQ3 := hide q3
  clear q3 o3
  have p4 : w3.cell? ⟨w.heap.size, 4, none⟩ = some (.string s) := HOP3.out.cell 4
  have hp3 : w.heap.size < w3.heap.size := by omega
  go_wp2_with fail
  have HN3 := hide (Blk.new w3 #[.int .i64 y1, .int .i64 y2, .int .i64 y3, .int .i64 y4, .int .i64 y5, .slice t3a us.length t3c] 40)
  have HA3 : Hid (Below w3.heap.size w3 (w3.alloc (.cells #[.int .i64 y1, .int .i64 y2, .int .i64 y3, .int .i64 y4, .int .i64 y5, .slice t3a us.length t3c] 40))) := (Below.refl _ _).alloc (Nat.le_refl _) _
  have hz3a : (w3.alloc (.cells #[.int .i64 y1, .int .i64 y2, .int .i64 y3, .int .i64 y4, .int .i64 y5, .slice t3a us.length t3c] 40)).heap.size = w3.heap.size + 1 := by simp
  generalize hW3 : w3.alloc (.cells #[.int .i64 y1, .int .i64 y2, .int .i64 y3, .int .i64 y4, .int .i64 y5, .slice t3a us.length t3c] 40) = w3a at *
  clear hW3
  try (go_wp2_with fail)
  refine (back_true (w.heap.size + 1) _ s w3a (HLB3.out.below HA3.out) (by omega)).mono ?_
  rintro e w4 ⟨rfl, f4⟩
  have HLR : Hid (∀ k, (Value.slice bva s.size bvc).ownBlock = some k → w.heap.size + 1 ≤ k ∧ k < w1.heap.size) := by
    intro k hk
    rcases HLB1.out with ⟨h1, h0⟩ | ⟨g, h1, hg, hb⟩
    · rw [h1] at hk; simp [Value.ownBlock] at hk
    · rw [h1] at hk; simp only [Value.ownBlock, Option.some.injEq] at hk; subst hk; exact ⟨hg, hb.lt⟩
  have hz4 := f4.size
  have kf : ∀ k, k < w3a.heap.size → (k < w.heap.size + 1 ∨ w1.heap.size ≤ k) → w4.heap[k]? = w3a.heap[k]? := fun k hk hor => f4.block k hk (fun e => by have := HLR.out k e; omega)
  have HO24 := hide ((HO23.out.below HA3.out).kept (w' := w4) fun k h1 h2 => kf k h2 (.inr h1))
  have HO34 := hide ((HO3.out.below HA3.out).kept (w' := w4) fun k h1 h2 => kf k h2 (.inr (by omega)))
  have HN24 : Hid (Blk w4 w2.heap.size #[.int .i64 y1, .int .i64 y2, .int .i64 y3, .int .i64 y4, .int .i64 y5, .slice t2a us.length t2c] 40) := (kf _ (by omega) (.inr (by omega))).trans (HN23.out.later HA3.out (by omega))
  have HN34 : Hid (Blk w4 w3.heap.size #[.int .i64 y1, .int .i64 y2, .int .i64 y3, .int .i64 y4, .int .i64 y5, .slice t3a us.length t3c] 40) := (kf _ (by omega) (.inr (by omega))).trans HN3.out
  have HOP4 : Hid (Blk w4 w.heap.size #[.int .i64 kind, .int .i64 a, .int .i64 b, .int .i64 c, .string s, .int .i64 x1, .int .i64 x2, .int .i64 x3, .int .i64 x4, .int .i64 x5, .slice ta ts.length tc] 43) := (kf _ (by omega) (.inl (by omega))).trans (HOP3.out.later HA3.out (by omega))
  have HBW4 : Hid (Below w.heap.size w w4) := (HBW3.out.trans (HA3.out.mono (by omega))).trans (f4.below (by omega) (fun k hk => by have := HLR.out k hk; omega))
  have HKF := hide kf
  clear f4 kf p4
  have r4 : w4.cell? ⟨w.heap.size, 4, none⟩ = some (.string s) := HOP4.out.cell 4
  obtain ⟨cap5, w5, hcv, q5, rd5⟩ := conv_str s w4
  have HQ5 := hide q5
  have HRD5 := hide rd5
  have hz5 := q5.size
  clear q5 rd5
  go_wp2_with fail
  refine (HRD.out w5 _ HRD5.out).mono ?_
  rintro e w6 ⟨dv, rfl, cf6, q6⟩
  obtain ⟨dt, hdv, hdt⟩ := cf6
  simp only at hdv hdt
  obtain ⟨da, dc, hde⟩ := hdt.slice
  subst hde
  subst hdv
  have HDT6 := hide hdt
  have HQ6 : Hid (Below w4.heap.size w4 w6) := HQ5.out.trans (q6.mono (by omega))
  have hz6 := q6.size
  clear q6 hdt hcv r4
  have HN26 := hide (HN24.out.later HQ6.out (by omega))
  have HN36 := hide (HN34.out.later HQ6.out (by omega))
  have HO26 := hide (HO24.out.below HQ6.out)
  have HO36 := hide (HO34.out.below HQ6.out)
  have HBW6 : Hid (Below w.heap.size w w6) := HBW4.out.trans (HQ6.out.mono (by omega))
  have c0 : w6.cell? ⟨w2.heap.size, 0, none⟩ = some (.int .i64 y1) := HN26.out.cell 0
  have c1 : w6.cell? ⟨w2.heap.size, 1, none⟩ = some (.int .i64 y2) := HN26.out.cell 1
  have c2 : w6.cell? ⟨w2.heap.size, 2, none⟩ = some (.int .i64 y3) := HN26.out.cell 2
  have c3 : w6.cell? ⟨w2.heap.size, 3, none⟩ = some (.int .i64 y4) := HN26.out.cell 3
  have c4 : w6.cell? ⟨w2.heap.size, 4, none⟩ = some (.int .i64 y5) := HN26.out.cell 4
  have c5 : w6.cell? ⟨w2.heap.size, 5, none⟩ = some (.slice t2a us.length t2c) := HN26.out.cell 5
  have x0 : w6.cell? ⟨w3.heap.size, 0, none⟩ = some (.int .i64 y1) := HN36.out.cell 0
  have x1 : w6.cell? ⟨w3.heap.size, 1, none⟩ = some (.int .i64 y2) := HN36.out.cell 1
  have x2 : w6.cell? ⟨w3.heap.size, 2, none⟩ = some (.int .i64 y3) := HN36.out.cell 2
  have x3 : w6.cell? ⟨w3.heap.size, 3, none⟩ = some (.int .i64 y4) := HN36.out.cell 3
  have x4 : w6.cell? ⟨w3.heap.size, 4, none⟩ = some (.int .i64 y5) := HN36.out.cell 4
  have x5 : w6.cell? ⟨w3.heap.size, 5, none⟩ = some (.slice t3a us.length t3c) := HN36.out.cell 5
  have hl26 : w2.heap.size < w6.heap.size := by omega
  have hl36 : w3.heap.size < w6.heap.size := by omega
  have HA6 : Hid (Below w6.heap.size w6 (w6.alloc (.cells #[.int .i64 y1, .int .i64 y2, .int .i64 y3, .int .i64 y4, .int .i64 y5, .slice da us.length dc] 40))) := (Below.refl _ _).alloc (Nat.le_refl _) _
  have hz6a : (w6.alloc (.cells #[.int .i64 y1, .int .i64 y2, .int .i64 y3, .int .i64 y4, .int .i64 y5, .slice da us.length dc] 40)).heap.size = w6.heap.size + 1 := by simp
  have HCD : Hid (Cf (w6.alloc (.cells #[.int .i64 y1, .int .i64 y2, .int .i64 y3, .int .i64 y4, .int .i64 y5, .slice da us.length dc] 40)) (w6.alloc (.cells #[.int .i64 y1, .int .i64 y2, .int .i64 y3, .int .i64 y4, .int .i64 y5, .slice da us.length dc] 40)).heap.size (.agg #[.int .i64 y1, .int .i64 y2, .int .i64 y3, .int .i64 y4, .int .i64 y5, .slice da us.length dc]) ⟨y1, y2, y3, y4, y5, us⟩) := ⟨_, rfl, (HDT6.out.later HA6.out (by omega)).up (by omega)⟩
  have HCC : Hid (Cf (w6.alloc (.cells #[.int .i64 y1, .int .i64 y2, .int .i64 y3, .int .i64 y4, .int .i64 y5, .slice da us.length dc] 40)) (w6.alloc (.cells #[.int .i64 y1, .int .i64 y2, .int .i64 y3, .int .i64 y4, .int .i64 y5, .slice da us.length dc] 40)).heap.size (.agg #[.int .i64 y1, .int .i64 y2, .int .i64 y3, .int .i64 y4, .int .i64 y5, .slice t2a us.length t2c]) ⟨y1, y2, y3, y4, y5, us⟩) := ⟨_, rfl, (HO26.out.below HA6.out).tasks⟩
  have HCX : Hid (Cf (w6.alloc (.cells #[.int .i64 y1, .int .i64 y2, .int .i64 y3, .int .i64 y4, .int .i64 y5, .slice da us.length dc] 40)) (w6.alloc (.cells #[.int .i64 y1, .int .i64 y2, .int .i64 y3, .int .i64 y4, .int .i64 y5, .slice da us.length dc] 40)).heap.size (.agg #[.int .i64 y1, .int .i64 y2, .int .i64 y3, .int .i64 y4, .int .i64 y5, .slice t3a us.length t3c]) ⟨y1, y2, y3, y4, y5, us⟩) := ⟨_, rfl, (HO36.out.below HA6.out).tasks⟩
  have HND : Hid (Blk (w6.alloc (.cells #[.int .i64 y1, .int .i64 y2, .int .i64 y3, .int .i64 y4, .int .i64 y5, .slice da us.length dc] 40)) w6.heap.size #[.int .i64 y1, .int .i64 y2, .int .i64 y3, .int .i64 y4, .int .i64 y5, .slice da us.length dc] 40) := Blk.new _ _ _
  have husl : us.length ≤ 140737488355328 := by have := HDS.out.1; omega
  have HUL : Hid (∀ t ∈ us, t.lims.length ≤ 140737488355328) := fun t ht => by have := HDS.out.2 t ht; omega
  go_wp2_with fail
  generalize hW6 : w6.alloc (.cells #[.int .i64 y1, .int .i64 y2, .int .i64 y3, .int .i64 y4, .int .i64 y5, .slice da us.length dc] 40) = w6a at *
  clear hW6 c0 c1 c2 c3 c4 c5 x0 x1 x2 x3 x4 x5
  refine (sameConfig_true _ _ _ ⟨y1, y2, y3, y4, y5, us⟩ w6a HCC.out HCD.out (Nat.le_refl _) husl HUL.out).mono ?_
  rintro e w7 ⟨rfl, q7⟩
  have hz7 := q7.size
  have HN27 := hide ((HN26.out.later HA6.out (by omega)).later q7 (by omega))
  have HN37 := hide ((HN36.out.later HA6.out (by omega)).later q7 (by omega))
  have HND7 := hide (HND.out.later q7 (by omega))
  have HO27 := hide ((HO26.out.below HA6.out).below q7)
  have HO37 := hide ((HO36.out.below HA6.out).below q7)
  have HCD7 := hide (HCD.out.later q7 (Nat.le_refl _))
  have HCX7 := hide (HCX.out.later q7 (Nat.le_refl _))
  have HBW7 : Hid (Below w.heap.size w w7) := (HBW6.out.trans (HA6.out.mono (by omega))).trans (q7.mono (by omega))
  have HQ7 := hide q7
  clear q7
  have z0 : w7.cell? ⟨w3.heap.size, 0, none⟩ = some (.int .i64 y1) := HN37.out.cell 0
  have z1 : w7.cell? ⟨w3.heap.size, 1, none⟩ = some (.int .i64 y2) := HN37.out.cell 1
  have z2 : w7.cell? ⟨w3.heap.size, 2, none⟩ = some (.int .i64 y3) := HN37.out.cell 2
  have z3 : w7.cell? ⟨w3.heap.size, 3, none⟩ = some (.int .i64 y4) := HN37.out.cell 3
  have z4 : w7.cell? ⟨w3.heap.size, 4, none⟩ = some (.int .i64 y5) := HN37.out.cell 4
  have z5 : w7.cell? ⟨w3.heap.size, 5, none⟩ = some (.slice t3a us.length t3c) := HN37.out.cell 5
  have d0 : w7.cell? ⟨w6.heap.size, 0, none⟩ = some (.int .i64 y1) := HND7.out.cell 0
  have d1 : w7.cell? ⟨w6.heap.size, 1, none⟩ = some (.int .i64 y2) := HND7.out.cell 1
  have d2 : w7.cell? ⟨w6.heap.size, 2, none⟩ = some (.int .i64 y3) := HND7.out.cell 2
  have d3 : w7.cell? ⟨w6.heap.size, 3, none⟩ = some (.int .i64 y4) := HND7.out.cell 3
  have d4 : w7.cell? ⟨w6.heap.size, 4, none⟩ = some (.int .i64 y5) := HND7.out.cell 4
  have d5 : w7.cell? ⟨w6.heap.size, 5, none⟩ = some (.slice da us.length dc) := HND7.out.cell 5
  go_wp2_with fail
  refine (sameConfig_true _ _ _ ⟨y1, y2, y3, y4, y5, us⟩ w7 HCX7.out HCD7.out (by omega) husl HUL.out).mono ?_
  rintro e w8 ⟨rfl, q8⟩
  have hz8 := q8.size
  have HN28 := hide (HN27.out.later q8 (by omega))
  have HN38 := hide (HN37.out.later q8 (by omega))
  have HO28 := hide (HO27.out.below q8)
  have HO38 := hide (HO37.out.below q8)
  have HBW8 : Hid (Below w.heap.size w w8) := HBW7.out.trans (q8.mono (by omega))
  have HQ8 := hide q8
  clear q8 z0 z1 z2 z3 z4 z5 d0 d1 d2 d3 d4 d5
  have HBK8 : Hid (BookAt w8.drew S B W ps nb ni ne nl nt) := HBK.out.same (w' := w8.drew) (fun k hk => HBW8.out.block k (HS.out k hk).2) (show w.heap.size ≤ w8.heap.size by omega)
  have HK48 : Hid (∀ k, k < w4.heap.size → w8.heap[k]? = w4.heap[k]?) := fun k hk => (((HQ8.out.block k (by omega)).trans (HQ7.out.block k (by omega))).trans (HA6.out.block k (by omega))).trans (HQ6.out.block k hk)
  have HK28 : Hid (∀ k, w1.heap.size ≤ k → k < w2.heap.size → w8.heap[k]? = w2.heap[k]?) := fun k h1 h2 => (((HK48.out k (by omega)).trans (HKF.out k (by omega) (.inr h1))).trans (HA3.out.block k (by omega))).trans ((HQ3.out.block k (by omega)).trans (HA2.out.block k h2))
  have HK38 : Hid (∀ k, w2a.heap.size ≤ k → k < w3.heap.size → w8.heap[k]? = w3.heap[k]?) := fun k h1 h2 => ((HK48.out k (by omega)).trans (HKF.out k (by omega) (.inr (by omega)))).trans (HA3.out.block k h2)
  obtain ⟨es2, b1, b2, b3, b4⟩ := HO2.out.bk HDS.out.1 HDS.out.2
  have HTB2 := hide (fun k (hk : TBk (.slice t2a us.length t2c) es2 k) => TBk.range b1 b3 hk)
  have HES2 : Hid (w8.ownsRow B 55 3 (.slice t2a us.length t2c) es2.length (flat3 es2) ∧ (∀ k, (Value.slice t2a us.length t2c).ownBlock = some k → w1.heap.size ≤ k) ∧ (∀ e ∈ es2, ∃ n xs, w8.ownsRow B 52 2 e.2.2 n xs ∧ n ≤ 3 ∧ ∀ k, e.2.2.ownBlock = some k → w1.heap.size ≤ k) ∧ Apart es2) := by
    refine ⟨owns_lower (owns_same b1 fun k hk => HK28.out k (World.ownsRow.lt b1 k hk).1 (World.ownsRow.lt b1 k hk).2) (by omega), fun k hk => (World.ownsRow.lt b1 k hk).1, fun e he => ?_, b4⟩
    obtain ⟨n, xs, ho, hn⟩ := b3 e he
    exact ⟨n, xs, owns_lower (owns_same ho fun k hk => HK28.out k (World.ownsRow.lt ho k hk).1 (World.ownsRow.lt ho k hk).2) (by omega), hn, fun k hk => (World.ownsRow.lt ho k hk).1⟩
  have hes6 : es2.length ≤ 6 := by rw [b2]; exact HDS.out.1
  have hcT : w8.cell? ⟨w2.heap.size, 5, none⟩ = some (.slice t2a us.length t2c) := HN28.out.cell 5
  have HT1 := hide (bookT_any S B W ps nb ni ne nl nt (.slice t2a us.length t2c) es2 w8.drew HBK8.out (show B ≤ w8.heap.size by omega) HES2.out.1 (fun k hk hs => by have h1 := (HS.out k hs).2; have h2 := HES2.out.2.1 k hk; omega)
    (fun e he => by
      obtain ⟨n, xs, ho, hn, hk'⟩ := HES2.out.2.2.1 e he
      exact ⟨n, xs, ho, by omega, fun k hk hs => by have h1 := (HS.out k hs).2; have h2 := hk' k hk; omega⟩) HES2.out.2.2.2 (by omega) (by omega) (by omega))
  clear b1 b2 b3 b4
  go_wp2_with fail
  apply wp_some1 (fun (w9 : World) => ∃ S', BookAt w9 S' B W ps nb ni ne (nl + es2.length) (nt + 1) ∧ (∀ k, S k → S' k) ∧ (∀ k, S' k → S k ∨ TBk (.slice t2a us.length t2c) es2 k ∨ w8.heap.size ≤ k) ∧ Fr (fun k => S k ∨ TBk (.slice t2a us.length t2c) es2 k) w8 w9)
  case h =>
    go_region_with (go_at_call 32; refine HT1.out.mono ?_; rintro e w9 ⟨rfl, hpost⟩; have HP := hide hpost; clear hpost)
    all_goals
      obtain ⟨S', p1, p2, p3, p4⟩ := HP.out
      exact ⟨w9, ⟨S', p1, p2, p3, ⟨p4.os, p4.tape, p4.output, p4.size, p4.block⟩⟩, rfl, rfl⟩
  rintro w9 ⟨S2, p1, p2, p3, p4⟩
  have hz9 := p4.size
  have HF9 := hide p4
  have HBK9 : Hid (BookAt w9.drew S2 B W ps nb ni ne (nl + es2.length) (nt + 1)) := p1.same (w' := w9.drew) (fun _ _ => rfl) (Nat.le_refl _)
  have HS2 : Hid (∀ k, S2 k → B ≤ k ∧ k < w9.heap.size) := p1.1
  have HP3 := hide p3
  have HP2 := hide p2
  have kf : ∀ k, w2.heap.size ≤ k → k < w8.heap.size → w9.heap[k]? = w8.heap[k]? := fun k h0 hk => HF9.out.block k hk (by
    rintro (h | h)
    · have := (HS.out k h).2; omega
    · have := (HTB2.out k h).2; omega)
  have HN39 : Hid (Blk w9 w3.heap.size #[.int .i64 y1, .int .i64 y2, .int .i64 y3, .int .i64 y4, .int .i64 y5, .slice t3a us.length t3c] 40) := (kf _ (by omega) (by omega)).trans HN38.out
  have HBW9 : Hid (Below B w w9) := (HBW8.out.mono hB).trans (p4.below (by omega) (by
    rintro k (hk | hk)
    · exact (HS.out k hk).1
    · have := (HTB2.out k hk).1; omega))
  obtain ⟨es3, c1, c2, c3, c4⟩ := HO3.out.bk HDS.out.1 HDS.out.2
  have HTB3 := hide (fun k (hk : TBk (.slice t3a us.length t3c) es3 k) => TBk.range c1 c3 hk)
  have HK39 : Hid (∀ k, w2a.heap.size ≤ k → k < w3.heap.size → w9.heap[k]? = w3.heap[k]?) := fun k h1 h2 => (kf k (by omega) (by omega)).trans (HK38.out k h1 h2)
  have HES3 : Hid (w9.ownsRow B 55 3 (.slice t3a us.length t3c) es3.length (flat3 es3) ∧ (∀ k, (Value.slice t3a us.length t3c).ownBlock = some k → w2a.heap.size ≤ k ∧ k < w3.heap.size) ∧ (∀ e ∈ es3, ∃ n xs, w9.ownsRow B 52 2 e.2.2 n xs ∧ n ≤ 3 ∧ ∀ k, e.2.2.ownBlock = some k → w2a.heap.size ≤ k ∧ k < w3.heap.size) ∧ Apart es3) := by
    refine ⟨owns_lower (owns_same c1 fun k hk => HK39.out k (World.ownsRow.lt c1 k hk).1 (World.ownsRow.lt c1 k hk).2) (by omega), fun k hk => World.ownsRow.lt c1 k hk, fun e he => ?_, c4⟩
    obtain ⟨n, xs, ho, hn⟩ := c3 e he
    exact ⟨n, xs, owns_lower (owns_same ho fun k hk => HK39.out k (World.ownsRow.lt ho k hk).1 (World.ownsRow.lt ho k hk).2) (by omega), hn, fun k hk => World.ownsRow.lt ho k hk⟩
  have hes36 : es3.length ≤ 6 := by rw [c2]; exact HDS.out.1
  have hcT3 : w9.cell? ⟨w3.heap.size, 5, none⟩ = some (.slice t3a us.length t3c) := HN39.out.cell 5
  have HNS3 : Hid (∀ k, w2a.heap.size ≤ k → k < w3.heap.size → ¬ S2 k) := by
    intro k h1 h2 hs
    rcases HP3.out k hs with h | h | h
    · have := (HS.out k h).2; omega
    · have := (HTB2.out k h).2; omega
    · omega
  have HT2 := hide (bookT_any S2 B W ps nb ni ne (nl + es2.length) (nt + 1) (.slice t3a us.length t3c) es3 w9.drew HBK9.out (show B ≤ w9.heap.size by omega) HES3.out.1 (fun k hk => by have := HES3.out.2.1 k hk; exact HNS3.out k this.1 this.2)
    (fun e he => by
      obtain ⟨n, xs, ho, hn, hk'⟩ := HES3.out.2.2.1 e he
      exact ⟨n, xs, ho, by omega, fun k hk => HNS3.out k (hk' k hk).1 (hk' k hk).2⟩) HES3.out.2.2.2 (by omega) (by omega) (by omega))
  clear c1 c2 c3 c4 p1 p2 p3 p4 kf hcT
  go_wp2_with fail
  apply wp_some1 (fun (w10 : World) => ∃ S', BookAt w10 S' B W ps nb ni ne (nl + es2.length + es3.length) (nt + 1 + 1) ∧ (∀ k, S2 k → S' k) ∧ (∀ k, S' k → S2 k ∨ TBk (.slice t3a us.length t3c) es3 k ∨ w9.heap.size ≤ k) ∧ Fr (fun k => S2 k ∨ TBk (.slice t3a us.length t3c) es3 k) w9 w10)
  case h =>
    go_region_with (go_at_call 32; refine HT2.out.mono ?_; rintro e w10 ⟨rfl, hpost⟩; have HP := hide hpost; clear hpost)
    all_goals
      obtain ⟨S', p1, p2, p3, p4⟩ := HP.out
      exact ⟨w10, ⟨S', p1, p2, p3, ⟨p4.os, p4.tape, p4.output, p4.size, p4.block⟩⟩, rfl, rfl⟩
  rintro w10 ⟨S3, p1, p2, p3, p4⟩
  have HBW10 : Hid (Below B w w10) := HBW9.out.trans (p4.below (by omega) (by
    rintro k (hk | hk)
    · exact (HS2.out k hk).1
    · have := (HTB3.out k hk).1; omega))
  have HBKF := hide p1
  have HTK : Hid (Takes w w10 S S3) := by
    have hzr := HBW8.out.size
    refine ⟨fun k e => p2 k (HP2.out k e), fun k e => ?_, ((Fr.of_below HBW8.out).trans HF9.out fun k hk e => e.elim id fun e => by have := (HTB2.out k e).1; omega).trans p4 fun k hk e => ?_⟩
    · rcases p3 k e with e | e | e
      · rcases HP3.out k e with e | e | e
        · exact .inl e
        · exact .inr (by have := (HTB2.out k e).1; omega)
        · exact .inr (by omega)
      · exact .inr (by have := (HTB3.out k e).1; omega)
      · exact .inr (by omega)
    · rcases e with e | e
      · rcases HP3.out k e with e | e | e
        · exact e
        · have := (HTB2.out k e).1; omega
        · omega
      · have := (HTB3.out k e).1; omega
  clear p1 p2 p3 p4 hcT3
  go_wp2
  go_ret
  exact ⟨rfl, S3, _, by omega, HBKF.out, HBW10.out, HTK.out⟩

end Go.Proofs.YthloffgebebijaaGreat
