/- ExecA: the document's executive in plain numbers: lines of bytes with their ticks, jobs that wait, the clock, counts; Feed, one line's reading, the round, Run, as the reference takes them. -/
import Derived.Test.YthloffgebebijaaGreatData
namespace Go.Proofs.YthloffgebebijaaGreat
open Go.RowKit

/-- A byte that was fed, and when. -/
structure Fd where
  b : Int
  tick : Int
/-- A job that waits. -/
structure Jb where
  number : Int
  task : Int
  deadline : Int
  cost : Int
  deriving DecidableEq
/-- What happened. -/
structure Ev where
  kind : Int
  tick : Int
  job : Int
  task : Int
  deadline : Int
/-- What was counted (without the clock, what waits, what is held). -/
structure Ct where
  jobs : Int
  done : Int
  lost : Int
  unknown : Int
  bad : Int
  spilled : Int
/-- The state of an executive. -/
structure Exs where
  cfg : Cfg
  lines : List (List Fd)
  jobs : List Jb
  clock : Int
  fed : Int
  ct : Ct

/-- New: of a configuration that may be. -/
def exNew (c : Cfg) : Exs := ⟨c, List.replicate c.lines.toNat [], [], 0, 0, ⟨0, 0, 0, 0, 0, 0⟩⟩

/-- One byte more on a line that holds at most 32: the line, and how many were spilled. -/
def lineAdd (t : Int) (l : List Fd × Int) (b : Int) : List Fd × Int := if l.1.length < 32 then (l.1 ++ [⟨b, t⟩], l.2) else (l.1, l.2 + 1)
def lineFeed (t : Int) (l : List Fd) (bs : List Int) : List Fd × Int := bs.foldl (lineAdd t) (l, 0)

/-- Feed: the error, and the state behind it. -/
def exFeed (x : Exs) (line t : Int) (bs : List Int) : Exs × Int :=
  if 0 ≤ line ∧ line ≤ x.cfg.lines - 1 then
    if t < x.clock ∨ t < x.fed ∨ 1000 ≤ t then (x, 4)
    else
      let r := lineFeed t (x.lines.getD line.toNat []) bs
      ({ x with lines := x.lines.set line.toNat r.1, fed := t, ct := { x.ct with spilled := x.ct.spilled + r.2 } }, 0)
  else (x, 3)

/-- What the bytes of a line begin with: nothing yet; a bad byte; a message of no task; a message: its task, its cost, its last byte's tick. -/
abbrev Msg := Option (Option (Option (Int × Int × Int)))
def exMsg (n : Nat) : List Fd → Msg
  | [] => none
  | a :: r =>
    if a.b ≠ 126 then some none
    else match r with
      | p :: q :: z :: _ =>
        if q.b = 0 ∨ z.b ≠ ((((p.b.toNat ^^^ q.b.toNat) ^^^ 85 : Nat)) : Int) then some none
        else if (n : Int) ≤ p.b then some (some none)
        else some (some (some (p.b, q.b, z.tick)))
      | _ => none

/-- What a reading goes by: the jobs that wait, the counts, the events so far. -/
structure Rdg where
  jobs : List Jb
  ct : Ct
  out : List Ev

/-- The reading of what was fed to a line by the tick t: what is left of it. (The fuel: the bytes.) -/
def exRead (c : Cfg) (t : Int) : Nat → List Fd → Rdg → List Fd × Rdg
  | 0, l, r => (l, r)
  | f + 1, l, r =>
    match exMsg c.tasks.length l with
    | none => (l, r)
    | some none => exRead c t f (l.drop 1) { r with ct := { r.ct with bad := r.ct.bad + 1 } }
    | some (some none) => exRead c t f (l.drop 4) { r with ct := { r.ct with unknown := r.ct.unknown + 1 } }
    | some (some (some (k, cost, tick))) =>
      let d := tick + ((c.tasks.map Tk.due).getD k.toNat 0)
      if (r.jobs.length : Int) = c.room then exRead c t f (l.drop 4) { r with ct := { r.ct with lost := r.ct.lost + 1 }, out := r.out ++ [⟨3, t, -1, k, d⟩] }
      else exRead c t f (l.drop 4) { r with jobs := r.jobs ++ [⟨r.ct.jobs, k, d, cost⟩], ct := { r.ct with jobs := r.ct.jobs + 1 } }

/-- A line's reading: what was fed behind t stays behind what is left. -/
def exLine (c : Cfg) (t : Int) (l : List Fd) (r : Rdg) : List Fd × Rdg :=
  let p := exRead c t l.length (l.filter fun f => decide (f.tick ≤ t)) r
  (p.1 ++ l.filter (fun f => !decide (f.tick ≤ t)), p.2)

/-- All lines, one behind the other. -/
def exLines (c : Cfg) (t : Int) : List (List Fd) → Rdg → List (List Fd) × Rdg
  | [], r => ([], r)
  | l :: ls, r =>
    let p := exLine c t l r
    let q := exLines c t ls p.2
    (p.1 :: q.1, q.2)

/-- a must be done ahead of b. -/
def jbBefore (a b : Jb) : Bool := decide (a.deadline < b.deadline) || (decide (a.deadline = b.deadline) && decide (a.number < b.number))
/-- The place of the job that must be done first: gone through from the place i on, k the best so far. -/
def firstFrom (js : List Jb) : Nat → Nat → Nat → Nat
  | 0, _, k => k
  | f + 1, i, k =>
    match js[i]?, js[k]? with
    | some a, some b => firstFrom js f (i + 1) (if jbBefore a b then i else k)
    | _, _ => k
def firstJ (js : List Jb) : Nat := firstFrom js (js.length - 1) 1 0

/-- One round: the state behind it, what happened. -/
def exRound (x : Exs) : Exs × List Ev :=
  let p := exLines x.cfg x.clock x.lines ⟨x.jobs, x.ct, []⟩
  let t := x.clock + x.cfg.poll
  match p.2.jobs[firstJ p.2.jobs]? with
  | none => ({ x with lines := p.1, jobs := p.2.jobs, ct := p.2.ct, clock := t + x.cfg.idle }, p.2.out)
  | some j =>
    let e := t + x.cfg.sw + j.cost
    ({ x with lines := p.1, jobs := p.2.jobs.eraseIdx (firstJ p.2.jobs), ct := { p.2.ct with done := p.2.ct.done + 1 }, clock := e }, p.2.out ++ [⟨1, t, j.number, j.task, j.deadline⟩, ⟨2, e, j.number, j.task, j.deadline⟩])

/-- Run: rounds, as long as the clock is below u and below 3000. (The fuel: 3000 rounds, of a tick each at the least.) -/
def exRun (u : Int) : Nat → Exs → Exs × List Ev
  | 0, x => (x, [])
  | f + 1, x =>
    if x.clock < u ∧ x.clock < 3000 then
      let p := exRound x
      let q := exRun u f p.1
      (q.1, p.2 ++ q.2)
    else (x, [])

/-- Counts, as the nine numbers of the program's own order. -/
def exCounts (x : Exs) : List Int :=
  [x.clock, x.ct.jobs, x.ct.done, x.jobs.length, x.ct.lost, x.ct.unknown, x.ct.bad, x.ct.spilled, (x.lines.map fun l => (l.length : Int)).sum]

end Go.Proofs.YthloffgebebijaaGreat
