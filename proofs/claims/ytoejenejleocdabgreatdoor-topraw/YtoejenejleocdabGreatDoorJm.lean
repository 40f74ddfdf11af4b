import Derived.Test.YtoejenejleocdabGreatDoorJo
import Derived.Lib.SmallJoins
import Derived.Test.YtoejenejleocdabGreatDoorUm
import Derived.Deep.Strs
import Derived.DataReads
/- Arguments that come in, opened: slices of numbers as rows; bits as a struct of three. -/
namespace Go.Proofs.YtoejenejleocdabGreatDoor
open Go.ChangeShapes Go.WideShapes Go.ChangeAt Go.RowKit Go.Joins

theorem cellsU64 : Tryz.prog.cellsOf 139 = 1 := by kernel_rfl
theorem cellsBits : Tryz.prog.cellsOf 100 = 3 := by kernel_rfl

section
variable {H : Type} {enc : TypeId × Value → H} {w : World} {base : Nat} {sp : Nat → Bool} {held : Bool}

/-- a slice of ints that came in -/
theorem open_intRow {v : Value} {n : Nat} {y : DataW H × List MemPlace} (h : DataW.trod enc Tryz.prog w base sp held n 22 [v] = some y) :
    ∃ (a : Option Addr) (len cap : Nat) (f : Nat → Int), v = .slice a len cap ∧ len ≤ 9223372036854775807 ∧ Row w w.heap.size a len (fun k => .int .i64 (f k)) ∧ ∀ k, -9223372036854775808 ≤ f k ∧ f k ≤ 9223372036854775807 := by
  rcases Deep.open_slice1 Tryz.underlying22 cellsInt h with ⟨hcs, _⟩ | ⟨x, l, c, m, n, V, D, Pl, hcs, _, hl, hm, hmm, _, hx⟩
  · simp at hcs
    subst hcs
    exact ⟨none, 0, 0, fun _ => 0, rfl, by omega, Row.zero, fun _ => by simp⟩
  · simp at hcs
    subst hcs
    have hle : l ≤ m := by rw [hmm]; split <;> omega
    have hv : ∀ i, i < l → ∃ b : Int, w.cell? (x.add i) = some (.int .i64 b) ∧ -9223372036854775808 ≤ b ∧ b ≤ 9223372036854775807 := fun i hi => by
      obtain ⟨h1, h2⟩ := hx i (by omega)
      obtain ⟨b, e, _, wb⟩ := DataW.trod_int Tryz.underlying3 h2
      simp at e
      exact ⟨b, by rw [h1, e], bounds_i64 wb⟩
    obtain ⟨f, hf⟩ := Deep.choose_lt hv
    refine ⟨_, _, _, fun k => if k < l then f k else 0, rfl, by unfold maxLen at hm; omega, row_of_cells (fun i hi => ?_), fun k => ?_⟩
    · simp only [(hf i hi).1, if_pos hi]
    · by_cases hk : k < l
      · simp only [if_pos hk]; exact (hf k hk).2
      · simp only [if_neg hk]; omega
/-- a slice of uint64 that came in -/
theorem open_u64Row {v : Value} {n : Nat} {y : DataW H × List MemPlace} (h : DataW.trod enc Tryz.prog w base sp held n 98 [v] = some y) :
    ∃ (a : Option Addr) (len cap : Nat) (f : Nat → Nat), v = .slice a len cap ∧ len ≤ 9223372036854775807 ∧ Row w w.heap.size a len (fun k => .int .u64 (f k)) ∧ ∀ k, f k < 18446744073709551616 := by
  rcases Deep.open_slice1 Tryz.underlying98 cellsU64 h with ⟨hcs, _⟩ | ⟨x, l, c, m, n, V, D, Pl, hcs, _, hl, hm, hmm, _, hx⟩
  · simp at hcs
    subst hcs
    exact ⟨none, 0, 0, fun _ => 0, rfl, by omega, Row.zero, fun _ => by simp⟩
  · simp at hcs
    subst hcs
    have hle : l ≤ m := by rw [hmm]; split <;> omega
    have hv : ∀ i, i < l → ∃ b : Nat, w.cell? (x.add i) = some (.int .u64 b) ∧ b < 18446744073709551616 := fun i hi => by
      obtain ⟨h1, h2⟩ := hx i (by omega)
      obtain ⟨b, e, _, wb⟩ := DataW.trod_int Tryz.underlying139 h2
      simp at e
      have hb := bounds_u64 wb
      obtain ⟨k, rfl⟩ := Int.eq_ofNat_of_zero_le hb.1
      exact ⟨k, by rw [h1, e], by omega⟩
    obtain ⟨f, hf⟩ := Deep.choose_lt hv
    refine ⟨_, _, _, fun k => if k < l then f k else 0, rfl, by unfold maxLen at hm; omega, row_of_cells (fun i hi => ?_), fun k => ?_⟩
    · simp only [(hf i hi).1, if_pos hi]
    · by_cases hk : k < l
      · simp only [if_pos hk]; exact (hf k hk).2
      · simp only [if_neg hk]; omega
set_option maxRecDepth 100000 in
/-- bits that came in -/
theorem open_bits {r : Reach} {b0 : Nat} {v : Value} {d : DataW H} {p : List MemPlace} (hv : Value.okWide Tryz.prog w r b0 100 v) (h : DataW.Trod enc Tryz.prog w base sp held 100 v d p) :
    ∃ (n : Int) (A : Option Addr) (np cp : Nat) (A2 : Option Addr) (na ca : Nat) (P : Nat → Nat) (a : Nat → Int), v = .agg #[.int .i64 n, .slice A np cp, .slice A2 na ca] ∧ -9223372036854775808 ≤ n ∧ n ≤ 9223372036854775807 ∧
      np ≤ 9223372036854775807 ∧ na ≤ 9223372036854775807 ∧ Row w w.heap.size A np (fun k => .int .u64 (P k)) ∧ (∀ k, P k < 18446744073709551616) ∧ Row w w.heap.size A2 na (fun k => .int .i64 (a k)) ∧ ∀ k, -9223372036854775808 ≤ a k ∧ a k ≤ 9223372036854775807 := by
  obtain ⟨v0, v1, v2, y0, y1, y2, m, rfl, _, _, t0, t1, t2⟩ := open_agg3 Tryz.underlying100 (by kernel_rfl) cellsBits hv h
  obtain ⟨n, e0, _, w0⟩ := DataW.trod_int Tryz.underlying3 t0
  simp at e0
  subst e0
  obtain ⟨A, np, cp, P, rfl, hp, hP, hP2⟩ := open_u64Row t1
  obtain ⟨A2, na, ca, a, rfl, hna, ha, ha2⟩ := open_intRow t2
  exact ⟨n, A, np, cp, A2, na, ca, P, a, rfl, (bounds_i64 w0).1, (bounds_i64 w0).2, hp, hna, hP, hP2, ha, ha2⟩
end

end Go.Proofs.YtoejenejleocdabGreatDoor

/- A shelf that comes in, opened: whatever words, whatever index. -/
namespace Go.Proofs.YtoejenejleocdabGreatDoor
open Go.ChangeShapes Go.WideShapes Go.ChangeAt Go.RowKit Go.Joins Tx

theorem cellsStr : Tryz.prog.cellsOf 9 = 1 := by kernel_rfl
theorem cellsBook : Tryz.prog.cellsOf 43 = 2 := by kernel_rfl
theorem cellsComb : Tryz.prog.cellsOf 33 = 5 := by kernel_rfl
theorem cellsWave : Tryz.prog.cellsOf 31 = 3 := by kernel_rfl
theorem cellsShelf : Tryz.prog.cellsOf 45 = 7 := by kernel_rfl
theorem cellsSs : Tryz.prog.cellsOf 41 = 1 := by kernel_rfl
theorem cellsIs : Tryz.prog.cellsOf 22 = 1 := by kernel_rfl
theorem cellsUs : Tryz.prog.cellsOf 98 = 1 := by kernel_rfl
theorem cellsBs : Tryz.prog.cellsOf 29 = 1 := by kernel_rfl

section
variable {H : Type} {enc : TypeId × Value → H} {w : World} {base : Nat} {sp : Nat → Bool} {held : Bool}

/-- a reading that is of so many at least -/
def Holds (d : DataW H) (n : Nat) : Prop := n = 0 ∨ ∃ es spare, d = .slice es spare ∧ es.length = n
/-- a slice of ints, and how much it holds -/
theorem open_intB {v : Value} {n : Nat} {y : DataW H × List MemPlace} (h : DataW.trod enc Tryz.prog w base sp held n 22 [v] = some y) :
    ∃ (a : Option Addr) (len cap : Nat) (f : Nat → Int), v = .slice a len cap ∧ len ≤ cap ∧ Holds y.1 len ∧ Row w w.heap.size a len (fun k => .int .i64 (f k)) := by
  obtain ⟨a, len, cap, f, rfl, _, hr, _⟩ := open_intRow h
  rcases Deep.open_slice1 Tryz.underlying22 cellsInt h with ⟨hcs, rfl⟩ | ⟨x, l, c, m, n, V, D, Pl, hcs, _, hl, hm, hmm, rfl, hx⟩
  · simp at hcs
    obtain ⟨rfl, rfl, rfl⟩ := hcs
    exact ⟨none, 0, 0, f, rfl, by omega, .inl rfl, hr⟩
  · simp at hcs
    obtain ⟨rfl, rfl, rfl⟩ := hcs
    exact ⟨_, _, _, f, rfl, hl, .inr ⟨_, _, rfl, by simp⟩, hr⟩
/-- a slice of texts, and how much it holds -/
theorem open_strB {v : Value} {n : Nat} {y : DataW H × List MemPlace} (h : DataW.trod enc Tryz.prog w base sp held n 41 [v] = some y) :
    ∃ (a : Option Addr) (cap : Nat) (ws : List Wd), v = .slice a ws.length cap ∧ Holds y.1 ws.length ∧ SRow w w.heap.size a ws := by
  rcases Deep.open_strs Tryz.underlying41 Tryz.underlying9 cellsStr h with ⟨hcs, rfl⟩ | ⟨x, l, c, m, Sx, hcs, _, hl, hm, hmm, rfl, hx⟩
  · simp at hcs
    subst hcs
    exact ⟨none, 0, [], rfl, .inl rfl, fun h => absurd h (by simp)⟩
  · simp at hcs
    subst hcs
    have hle : l ≤ m := by rw [hmm]; split <;> omega
    have hlen : ((List.range l).map fun i => (Sx i).data.toList).length = l := by simp
    refine ⟨some x, c, (List.range l).map fun i => (Sx i).data.toList, by rw [hlen], ?_, ?_⟩
    · rw [hlen]
      exact .inr ⟨_, _, rfl, by simp⟩
    · unfold SRow
      rw [hlen]
      refine (row_of_cells (f := fun i => .string (Sx i)) (fun i hi => (hx i (by omega)).1)).congr (fun i hi => ?_)
      unfold sv
      simp [hi]
set_option maxRecDepth 100000 in
/-- a slice of bits -/
theorem open_levels {v : Value} {n : Nat} {y : DataW H × List MemPlace} (h : DataW.trod enc Tryz.prog w base sp held n 29 [v] = some y) :
    ∃ (a : Option Addr) (len cap : Nat), v = .slice a len cap ∧ len ≤ cap ∧ Holds y.1 len ∧ (len ≤ 1048576 → RL w a len) := by
  rcases Deep.open_slice Tryz.underlying29 h with ⟨hcs, rfl⟩ | ⟨x, l, c, m, k, D, Pl, hcs, _, hl, hm, hmm, rfl, hx⟩
  · simp at hcs
    subst hcs
    exact ⟨none, 0, 0, rfl, by omega, .inl rfl, fun _ => RL.no0 w none⟩
  · simp at hcs
    subst hcs
    refine ⟨some x, l, c, rfl, hl, .inr ⟨_, _, rfl, by simp⟩, fun hl7 => ?_⟩
    have hle : l ≤ m := by rw [hmm]; split <;> omega
    have each : ∀ i, i < l → ∃ q : (Int × Option Addr × Nat × Nat) × (Option Addr × Nat × Nat), w.cell? ((x.add (i * 3)).add 0) = some (.int .i64 q.1.1) ∧ w.cell? ((x.add (i * 3)).add 1) = some (.slice q.1.2.1 q.1.2.2.1 q.1.2.2.2) ∧ w.cell? ((x.add (i * 3)).add 2) = some (.slice q.2.1 q.2.2.1 q.2.2.2) ∧ RB3 w q.1.1 q.1.2.1 q.1.2.2.1 q.2.1 q.2.2.1 := fun i hi => by
      obtain ⟨cs', h1, h2⟩ := hx i (by omega)
      rw [cellsBits] at h1
      obtain ⟨_, hlen, hc⟩ := World.cells?_some h1
      obtain ⟨y0, y1, y2, k', _, _, t0, t1, t2⟩ := Deep.trod_struct3 Tryz.underlying100 h2
      match cs', hlen with
      | [u0, u1, u2], _ =>
        simp [cellsInt, cellsUs, cellsIs] at t0 t1 t2
        obtain ⟨nn, e0, _, w0⟩ := DataW.trod_int Tryz.underlying3 t0
        simp at e0
        subst e0
        obtain ⟨A, np, cp, P, rfl, hp, hP, hP2⟩ := open_u64Row t1
        obtain ⟨A2, na, ca, a, rfl, hna, ha, ha2⟩ := open_intRow t2
        refine ⟨((nn, A, np, cp), (A2, na, ca)), ?_, ?_, ?_, ⟨⟨(bounds_i64 w0).1, (bounds_i64 w0).2⟩, ⟨P, hP2, hP⟩, ⟨a, ha⟩⟩⟩
        · exact hc 0 (by omega)
        · exact hc 1 (by omega)
        · exact hc 2 (by omega)
    obtain ⟨Q, hQ⟩ := Deep.choose_lt each
    refine ⟨fun i => (Q i).1.1, fun i => (Q i).1.2.1, fun i => (Q i).1.2.2.1, fun i => (Q i).1.2.2.2, fun i => (Q i).2.1, fun i => (Q i).2.2.1, fun i => (Q i).2.2.2, ?_, fun i hi => (hQ i hi).2.2.2, by omega⟩
    intro hp
    have h0 := (hQ 0 hp).1
    have hs := World.cell?_spot h0
    have hb := World.block_lt_of_cell? _ _ h0
    obtain ⟨b, o, s⟩ := x
    simp [Addr.add] at hs hb
    subst hs
    refine ⟨b, o, rfl, hb, fun i hi => ?_⟩
    obtain ⟨q0, q1, q2, _⟩ := hQ i hi
    rw [addr_add, addr_add] at q0 q1 q2
    exact ⟨q0, q1, q2⟩

set_option maxRecDepth 100000 in
/-- whatever shelf that comes in -/
theorem open_shelf {r : Reach} {b0 : Nat} {v : Value} {d : DataW H} {p : List MemPlace} (hv : Value.okWide Tryz.prog w r b0 45 v) (h : DataW.Trod enc Tryz.prog w base sp held 45 v d p) :
    ∃ (s : Rf) (ws : List Wd) (d0 d1 d2 d3 d4 d5 d6 : DataW H), v = s.v ∧ d = .agg [.agg [d0, d1], .agg [d2, .agg [d5, d6, d3], d4]] ∧ Holds d0 s.n ∧ Holds d2 s.nE ∧ Holds d3 s.nL ∧ Holds d4 s.M ∧ (s.n ≤ 1048576 → s.nE ≤ 1048576 → s.nL ≤ 1048576 → s.M ≤ 1048576 → RSH w ws s) := by
  obtain ⟨cs, rfl, hsz⟩ := okWide_struct Tryz.underlying45 hv
  rw [cellsShelf] at hsz
  obtain ⟨fuel, hf⟩ := h
  obtain ⟨yb, yc, k, hx, hlen, tb, tc⟩ := trod_struct2 Tryz.underlying45 hf
  obtain ⟨c0, c1, c2, c3, c4, c5, c6, rfl⟩ : ∃ c0 c1 c2 c3 c4 c5 c6, cs = #[c0, c1, c2, c3, c4, c5, c6] := by
    obtain ⟨l⟩ := cs
    match l, hsz with
    | [c0, c1, c2, c3, c4, c5, c6], _ => exact ⟨_, _, _, _, _, _, _, rfl⟩
  simp [Value.cells, cellsBook, cellsComb] at tb tc
  obtain ⟨yw, yt, kb, hxb, _, tw, tt⟩ := trod_struct2 Tryz.underlying43 tb
  simp [cellsSs, cellsIs] at tw tt
  obtain ⟨ye, yv, yl, kc, hxc, _, te, tv, tl⟩ := Deep.trod_struct3 Tryz.underlying33 tc
  simp [cellsIs, cellsWave] at te tv tl
  obtain ⟨yn, yd, yL, kw, hxv, _, tn, td, tL⟩ := Deep.trod_struct3 Tryz.underlying31 tv
  simp [cellsInt, cellsBs] at tn td tL
  obtain ⟨A, cA, ws, rfl, hw1, hw2⟩ := open_strB tw
  obtain ⟨A2, n2, c2', _, rfl, _, _, _⟩ := open_intB tt
  obtain ⟨E, nE, cE, fE, rfl, hE1, hE2, hE3⟩ := open_intB te
  obtain ⟨S, M, cS, fS, rfl, hS1, hS2, hS3⟩ := open_intB tl
  obtain ⟨N, e0, _, w0⟩ := DataW.trod_int Tryz.underlying3 tn
  obtain ⟨D, e1, _, w1⟩ := DataW.trod_int Tryz.underlying3 td
  simp at e0 e1
  subst e0 e1
  obtain ⟨L, nL, cL, rfl, hL1, hL3, hL2⟩ := open_levels tL
  simp only [Prod.mk.injEq] at hx
  refine ⟨⟨A, ws.length, cA, A2, n2, c2', E, nE, cE, N, D, L, nL, cL, S, M, cS⟩, ws, yw.1, yt.1, ye.1, yL.1, yl.1, yn.1, yd.1, rfl, ?_, hw1, hE2, hL3, hS2, fun h1 h2 h4 h3 => ⟨hw2, rfl, h1, ⟨⟨fE, hE3⟩, hL2 h4, ⟨fS, hS3⟩, ⟨(bounds_i64 w0).1, (bounds_i64 w0).2⟩, ?_, ?_, hE1, hL1⟩, h2, h3⟩⟩
  · rw [hx.1, hxb, hxc, hxv]
  · show nE < _
    simp at h2
    omega
  · show M < _
    simp at h3
    omega
end

end Go.Proofs.YtoejenejleocdabGreatDoor
