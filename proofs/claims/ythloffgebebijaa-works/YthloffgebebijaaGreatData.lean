/- Data: configurations as plain data, and what it means that a value reads as one in a world, below a block number. -/
import Derived.Test.YthloffgebebijaaGreatBase
namespace Go.Proofs.YthloffgebebijaaGreat
open Go.RowKit

/-- A task: cost, due, limits (window, count). -/
structure Tk where
  cost : Int
  due : Int
  lims : List (Int × Int)

/-- A configuration. -/
structure Cfg where
  lines : Int
  room : Int
  poll : Int
  idle : Int
  sw : Int
  tasks : List Tk

def LimAt (w : World) (b o : Nat) (l : Int × Int) : Prop := w.cell? ⟨b, o, none⟩ = some (.int .i64 l.1) ∧ w.cell? ⟨b, o + 1, none⟩ = some (.int .i64 l.2)

/-- The value v reads as the limits ls, in w, all of it below block B. -/
def Lims (w : World) (B : Nat) (v : Value) (ls : List (Int × Int)) : Prop :=
  ∃ a cap, v = .slice a ls.length cap ∧ (ls = [] ∨ ∃ b o, a = some ⟨b, o, none⟩ ∧ b < B ∧ ∀ i l, ls[i]? = some l → LimAt w b (o + i * 2) l)

def TaskAt (w : World) (B b o : Nat) (t : Tk) : Prop :=
  w.cell? ⟨b, o, none⟩ = some (.int .i64 t.cost) ∧ w.cell? ⟨b, o + 1, none⟩ = some (.int .i64 t.due) ∧ ∃ s, w.cell? ⟨b, o + 2, none⟩ = some s ∧ Lims w B s t.lims

def Tasks (w : World) (B : Nat) (v : Value) (ts : List Tk) : Prop :=
  ∃ a cap, v = .slice a ts.length cap ∧ (ts = [] ∨ ∃ b o, a = some ⟨b, o, none⟩ ∧ b < B ∧ ∀ i t, ts[i]? = some t → TaskAt w B b (o + i * 3) t)

/-- The value v reads as the task t. -/
def Task1 (w : World) (B : Nat) (v : Value) (t : Tk) : Prop := ∃ s, v = .agg #[.int .i64 t.cost, .int .i64 t.due, s] ∧ Lims w B s t.lims

def Cf (w : World) (B : Nat) (v : Value) (c : Cfg) : Prop :=
  ∃ s, v = .agg #[.int .i64 c.lines, .int .i64 c.room, .int .i64 c.poll, .int .i64 c.idle, .int .i64 c.sw, s] ∧ Tasks w B s c.tasks

theorem LimAt.later {w w' : World} {B b o : Nat} {l : Int × Int} (h : LimAt w b o l) (hb : Below B w w') (hlt : b < B) : LimAt w' b o l :=
  ⟨(hb.cell (p := ⟨b, o, none⟩) hlt).trans h.1, (hb.cell (p := ⟨b, o + 1, none⟩) hlt).trans h.2⟩

theorem Lims.later {w w' : World} {B B' : Nat} {v : Value} {ls : List (Int × Int)} (h : Lims w B v ls) (hb : Below B' w w') (hle : B ≤ B') : Lims w' B v ls := by
  obtain ⟨a, cap, hv, h⟩ := h
  refine ⟨a, cap, hv, h.imp id ?_⟩
  rintro ⟨b, o, ha, hlt, hc⟩
  exact ⟨b, o, ha, hlt, fun i l hi => (hc i l hi).later hb (by omega)⟩

theorem Lims.up {w : World} {B B' : Nat} {v : Value} {ls : List (Int × Int)} (h : Lims w B v ls) (hle : B ≤ B') : Lims w B' v ls := by
  obtain ⟨a, cap, hv, h⟩ := h
  refine ⟨a, cap, hv, h.imp id ?_⟩
  rintro ⟨b, o, ha, hlt, hc⟩
  exact ⟨b, o, ha, by omega, hc⟩

theorem Lims.slice {w : World} {B : Nat} {v : Value} {ls : List (Int × Int)} (h : Lims w B v ls) : ∃ a cap, v = .slice a ls.length cap := by
  obtain ⟨a, cap, hv, _⟩ := h
  exact ⟨a, cap, hv⟩
theorem Tasks.slice {w : World} {B : Nat} {v : Value} {ts : List Tk} (h : Tasks w B v ts) : ∃ a cap, v = .slice a ts.length cap := by
  obtain ⟨a, cap, hv, _⟩ := h
  exact ⟨a, cap, hv⟩

theorem TaskAt.later {w w' : World} {B B' b o : Nat} {t : Tk} (h : TaskAt w B b o t) (hb : Below B' w w') (hle : B ≤ B') (hlt : b < B') : TaskAt w' B b o t := by
  obtain ⟨h1, h2, s, h3, h4⟩ := h
  exact ⟨(hb.cell (p := ⟨b, o, none⟩) hlt).trans h1, (hb.cell (p := ⟨b, o + 1, none⟩) hlt).trans h2, s, (hb.cell (p := ⟨b, o + 2, none⟩) hlt).trans h3, h4.later hb hle⟩

theorem TaskAt.up {w : World} {B B' b o : Nat} {t : Tk} (h : TaskAt w B b o t) (hle : B ≤ B') : TaskAt w B' b o t := by
  obtain ⟨h1, h2, s, h3, h4⟩ := h
  exact ⟨h1, h2, s, h3, h4.up hle⟩

theorem Tasks.later {w w' : World} {B B' : Nat} {v : Value} {ts : List Tk} (h : Tasks w B v ts) (hb : Below B' w w') (hle : B ≤ B') : Tasks w' B v ts := by
  obtain ⟨a, cap, hv, h⟩ := h
  refine ⟨a, cap, hv, h.imp id ?_⟩
  rintro ⟨b, o, ha, hlt, hc⟩
  exact ⟨b, o, ha, hlt, fun i l hi => (hc i l hi).later hb hle (by omega)⟩

theorem Tasks.up {w : World} {B B' : Nat} {v : Value} {ts : List Tk} (h : Tasks w B v ts) (hle : B ≤ B') : Tasks w B' v ts := by
  obtain ⟨a, cap, hv, h⟩ := h
  refine ⟨a, cap, hv, h.imp id ?_⟩
  rintro ⟨b, o, ha, hlt, hc⟩
  exact ⟨b, o, ha, by omega, fun i l hi => (hc i l hi).up hle⟩

theorem Task1.later {w w' : World} {B B' : Nat} {v : Value} {t : Tk} (h : Task1 w B v t) (hb : Below B' w w') (hle : B ≤ B') : Task1 w' B v t := by
  obtain ⟨s, hv, hl⟩ := h
  exact ⟨s, hv, hl.later hb hle⟩

theorem Cf.later {w w' : World} {B B' : Nat} {v : Value} {c : Cfg} (h : Cf w B v c) (hb : Below B' w w') (hle : B ≤ B') : Cf w' B v c := by
  obtain ⟨s, hv, hl⟩ := h
  exact ⟨s, hv, hl.later hb hle⟩

theorem Cf.up {w : World} {B B' : Nat} {v : Value} {c : Cfg} (h : Cf w B v c) (hle : B ≤ B') : Cf w B' v c := by
  obtain ⟨s, hv, hl⟩ := h
  exact ⟨s, hv, hl.up hle⟩

/-! What a configuration is. -/
def vl (a : Int × Int) : List (Int × Int) → Bool
  | [] => true
  | l :: r => decide (a.1 + 1 ≤ l.1 ∧ l.1 ≤ 500) && (decide (a.2 + 1 ≤ l.2 ∧ l.2 ≤ 20) && vl l r)

def limsOk (ls : List (Int × Int)) : Bool := decide (1 ≤ ls.length ∧ ls.length ≤ 3) && vl (0, 0) ls

def taskOk (t : Tk) : Bool := decide (1 ≤ t.cost ∧ t.cost ≤ 50) && (decide (1 ≤ t.due ∧ t.due ≤ 400) && limsOk t.lims)

def tasksOk (ts : List Tk) : Bool := decide (1 ≤ ts.length ∧ ts.length ≤ 6) && ts.all taskOk

def cfgOk (c : Cfg) : Bool :=
  decide (1 ≤ c.lines ∧ c.lines ≤ 4) && (decide (1 ≤ c.room ∧ c.room ≤ 40) && (decide (1 ≤ c.poll ∧ c.poll ≤ 20) && (decide (0 ≤ c.idle ∧ c.idle ≤ 20) && (decide (0 ≤ c.sw ∧ c.sw ≤ 20) && tasksOk c.tasks))))

end Go.Proofs.YthloffgebebijaaGreat
