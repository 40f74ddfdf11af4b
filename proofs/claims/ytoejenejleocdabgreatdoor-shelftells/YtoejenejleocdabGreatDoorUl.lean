/- Package shelf, of whatever shelf: every call ends. -/
import Derived.Test.YtoejenejleocdabGreatDoorJn
import Derived.Test.YtoejenejleocdabGreatDoorUe
namespace Go.Proofs.YtoejenejleocdabGreatDoor
open Go.RowKit Tx
attribute [local irreducible] Bt.pop Bt.popF

/-- where whatever shelf's lists lie -/
structure Rf where
  A : Option Addr
  n : Nat
  c : Nat
  A2 : Option Addr
  n2 : Nat
  c2 : Nat
  E : Option Addr
  nE : Nat
  cE : Nat
  N : Int
  D : Int
  L : Option Addr
  nL : Nat
  cL : Nat
  S : Option Addr
  M : Nat
  cS : Nat
abbrev Rf.v (s : Rf) : Value := .agg #[.slice s.A s.n s.c, .slice s.A2 s.n2 s.c2, .slice s.E s.nE s.cE, .int .i64 s.N, .int .i64 s.D, .slice s.L s.nL s.cL, .slice s.S s.M s.cS]
abbrev Rf.obj (s : Rf) : Obj := .cells #[.slice s.A s.n s.c, .slice s.A2 s.n2 s.c2, .slice s.E s.nE s.cE, .int .i64 s.N, .int .i64 s.D, .slice s.L s.nL s.cL, .slice s.S s.M s.cS] 45
/-- whatever shelf -/
structure RSH (w : World) (ws : List Wd) (s : Rf) : Prop where
  words : SRow w w.heap.size s.A ws
  wlen : s.n = ws.length
  wn : s.n ≤ 1048576
  rc : RC w s.E s.L s.S s.cE s.cL s.nE s.nL s.M s.N
  mE : s.nE ≤ 1048576
  mM : s.M ≤ 1048576
theorem RSH.on {w w' : World} {ws : List Wd} {s : Rf} (h : RSH w ws s) (hb : Below w.heap.size w w') : RSH w' ws s := ⟨h.words.on hb, h.wlen, h.wn, h.rc.on hb, h.mE, h.mM⟩
/-- in a block of its own -/
structure RSB (w0 : World) (B : Nat) (ws : List Wd) (s : Rf) (W : World) : Prop where
  c0 : W.cell? ⟨B, 0, none⟩ = some (.slice s.A s.n s.c)
  c1 : W.cell? ⟨B, 1, none⟩ = some (.slice s.A2 s.n2 s.c2)
  c2 : W.cell? ⟨B, 2, none⟩ = some (.slice s.E s.nE s.cE)
  c3 : W.cell? ⟨B, 3, none⟩ = some (.int .i64 s.N)
  c4 : W.cell? ⟨B, 4, none⟩ = some (.int .i64 s.D)
  c5 : W.cell? ⟨B, 5, none⟩ = some (.slice s.L s.nL s.cL)
  c6 : W.cell? ⟨B, 6, none⟩ = some (.slice s.S s.M s.cS)
  sh : RSH W ws s
  lt : B < W.heap.size
  old : Below w0.heap.size w0 W
section
variable {w0 : World} {B : Nat} {ws : List Wd} {s : Rf} {W W' : World}
theorem RSB.on (h : RSB w0 B ws s W) (hb : Below W.heap.size W W') : RSB w0 B ws s W' :=
  ⟨(hb.cell (p := ⟨B, 0, none⟩) h.lt).trans h.c0, (hb.cell (p := ⟨B, 1, none⟩) h.lt).trans h.c1, (hb.cell (p := ⟨B, 2, none⟩) h.lt).trans h.c2, (hb.cell (p := ⟨B, 3, none⟩) h.lt).trans h.c3, (hb.cell (p := ⟨B, 4, none⟩) h.lt).trans h.c4, (hb.cell (p := ⟨B, 5, none⟩) h.lt).trans h.c5, (hb.cell (p := ⟨B, 6, none⟩) h.lt).trans h.c6,
    h.sh.on hb, Nat.lt_of_lt_of_le h.lt hb.size, h.old.trans (hb.mono h.old.size)⟩
theorem RSB.drew (h : RSB w0 B ws s W) : RSB w0 B ws s W.drew := h.on (Below.refl _ _).drew
theorem RSB.start (h : RSH W ws s) (hb : Below w0.heap.size w0 W) : RSB w0 W.heap.size ws s (W.alloc s.obj) :=
  ⟨by simp, by simp, by simp, by simp, by simp, by simp, by simp, h.on ((Below.refl _ _).alloc (Nat.le_refl _) _), by simp, hb.alloc hb.size _⟩
theorem RSB.signs (h : RSB w0 B ws s W) (hg : GV W) (q : Wd) (hq : q.length ≤ 1000000000) :
    Calls Tryz.prog 26 #[.agg #[.slice s.A s.n s.c, .slice s.A2 s.n2 s.c2], sv q] W (SgPost W (sgn ws q)) :=
  signs_any ws q s.A s.n s.c s.A2 s.n2 s.c2 W hg h.sh.words h.sh.wlen (by have := h.sh.wn; omega) hq
end

end Go.Proofs.YtoejenejleocdabGreatDoor
