/- The law SortTells. -/
import Derived.Test.YtnmhjhfdgfdooaaSu
import Derived.Test.YtnmhjhfdgfdooaaSq
import Derived.Test.YtnmhjhfdgfdooaaSr
import Derived.Test.YtnmhjhfdgfdooaaAq
namespace Go.Proofs.Ytnmhjhfdgfdooaa
open Go.RowKit

theorem alike_ints (A A2 : Option Addr) (c c2 : Nat) (l es : List Int) (w : World) (hr : IRow w w.heap.size A l) (hr2 : IRow w w.heap.size A2 es) (hn : l.length ≤ 17592186044416) (hm : es.length ≤ 9223372036854775807) :
    Calls Try.prog 27 #[.slice A l.length c, .slice A2 es.length c2] w (Ints w (alikeL l es)) := by
  unfold alikeL
  by_cases h : es = endsI l
  · subst h
    rw [if_pos rfl, endsI_length]
    exact alike_yes A A2 c c2 l w hr hr2 hn
  · rw [if_neg h]
    exact alike_no A A2 c c2 l es w hr hr2 hn hm h
theorem alikeOf_ints (A A2 : Option Addr) (c c2 : Nat) (l es : List Int) (w : World) (hr : IRow w w.heap.size A l) (hr2 : IRow w w.heap.size A2 es) (hn : l.length ≤ 17592186043904) (hm : es.length ≤ 9223372036854775807) :
    Calls Try.prog 28 #[.slice A l.length c, .slice A2 es.length c2] w (Ints w (alikeL l es)) := by
  unfold alikeL
  by_cases h : es = endsI l
  · subst h
    rw [if_pos rfl, endsI_length]
    exact alikeOf_yes A A2 c c2 l w hr hr2 hn
  · rw [if_neg h]
    exact alikeOf_no A A2 c c2 l es w hr hr2 hn hm h

theorem alikeL_len (l es : List Int) : (alikeL l es).length ≤ l.length := by
  unfold alikeL
  split
  · simp [En.alikeOf]
  · simp
theorem aheadL_len (l es : List Int) : (En.aheadOf l es).length ≤ es.length := by
  have := aheadOf_len l es es.length
  rwa [List.take_length] at this

/-- the law's memory: the list, the ends that came in, the copy, the ends of its own -/
structure SS (w : World) (A A2 A' A1 : Option Addr) (l es : List Int) (W : World) : Prop where
  old : Below w.heap.size w W
  r0 : IRow W W.heap.size A l
  r2 : IRow W W.heap.size A2 es
  rc : IRow W W.heap.size A' l
  r1 : IRow W W.heap.size A1 (endsI l)
theorem SS.on {w : World} {A A2 A' A1 : Option Addr} {l es : List Int} {W W' : World} (h : SS w A A2 A' A1 l es W) (hb : Below W.heap.size W W') : SS w A A2 A' A1 l es W' :=
  ⟨h.old.trans (hb.mono h.old.size), h.r0.on hb, h.r2.on hb, h.rc.on hb, h.r1.on hb⟩

/-- a call that hands back numbers, and the same again by another hand -/
def Same1 (w : World) (A A2 A' A1 : Option Addr) (l es L : List Int) (f : FuncId) (args : Array Value) : Prop :=
  ∀ W, SS w A A2 A' A1 l es W → Calls Try.prog f args W fun e w' => ∃ X cx, e = .returned (.slice X L.length cx) ∧ IRow w' w'.heap.size X L ∧ SS w A A2 A' A1 l es w'
def Same2 (w : World) (A A2 A' A1 : Option Addr) (l es L : List Int) (f : FuncId) (args : Array Value) : Prop :=
  ∀ W X, SS w A A2 A' A1 l es W → IRow W W.heap.size X L → Calls Try.prog f args W fun e w' => ∃ Y cy, e = .returned (.slice Y L.length cy) ∧ IRow w' w'.heap.size X L ∧ IRow w' w'.heap.size Y L ∧ SS w A A2 A' A1 l es w'
def Same3 (w : World) (A A2 A' A1 : Option Addr) (l es L : List Int) : Prop :=
  ∀ W X cx Y cy, SS w A A2 A' A1 l es W → IRow W W.heap.size X L → IRow W W.heap.size Y L → Calls Try.prog 23 #[.slice X L.length cx, .slice Y L.length cy] W fun e w' => e = .returned (.bool true) ∧ SS w A A2 A' A1 l es w'

section
variable {w : World} {A A2 A' A1 : Option Addr} {l es L : List Int}
theorem Same1.use {f : FuncId} {args : Array Value} (h : Same1 w A A2 A' A1 l es L f args) : ∀ W, SS w A A2 A' A1 l es W → Calls Try.prog f args W fun e w' => ∃ X cx, e = .returned (.slice X L.length cx) ∧ IRow w' w'.heap.size X L ∧ SS w A A2 A' A1 l es w' := h
theorem Same2.use {f : FuncId} {args : Array Value} (h : Same2 w A A2 A' A1 l es L f args) : ∀ W X, SS w A A2 A' A1 l es W → IRow W W.heap.size X L → Calls Try.prog f args W fun e w' => ∃ Y cy, e = .returned (.slice Y L.length cy) ∧ IRow w' w'.heap.size X L ∧ IRow w' w'.heap.size Y L ∧ SS w A A2 A' A1 l es w' := h
theorem Same3.use (h : Same3 w A A2 A' A1 l es L) : ∀ W X cx Y cy, SS w A A2 A' A1 l es W → IRow W W.heap.size X L → IRow W W.heap.size Y L → Calls Try.prog 23 #[.slice X L.length cx, .slice Y L.length cy] W fun e w' => e = .returned (.bool true) ∧ SS w A A2 A' A1 l es w' := h
theorem same1 {f : FuncId} {args : Array Value} (h : ∀ W, SS w A A2 A' A1 l es W → Calls Try.prog f args W (Ints W L)) : Same1 w A A2 A' A1 l es L f args :=
  fun W hW => (h W hW).mono fun _ _ ⟨X, cx, h1, h2, h3⟩ => ⟨X, cx, h1, h2, hW.on h3⟩
theorem same2 {f : FuncId} {args : Array Value} (h : ∀ W, SS w A A2 A' A1 l es W → Calls Try.prog f args W (Ints W L)) : Same2 w A A2 A' A1 l es L f args :=
  fun W _ hW hX => (h W hW).mono fun _ _ ⟨Y, cy, h1, h2, h3⟩ => ⟨Y, cy, h1, hX.on h3, h2, hW.on h3⟩
theorem same3 (hL : L.length ≤ 9223372036854775807) : Same3 w A A2 A' A1 l es L := fun W X cx Y cy hW hX hY => by
  have := sameInts_ints X Y cx cy L L W hX hY hL
  rw [show decide (L = L) = true from by simp] at this
  exact this.mono fun _ _ ⟨h1, q, h2⟩ => ⟨h1, by rw [h2]; exact hW.on (Below.drewN (Below.refl _ _) q)⟩
end

set_option maxHeartbeats 400000 in
theorem sortTells_long (A A2 : Option Addr) (n c n2 c2 : Nat) (w : World) (hn : 200 < n) :
    Calls Try.prog 6 #[.slice A n c, .slice A2 n2 c2] w fun e w' => e = .returned (.bool true) ∧ Below w.heap.size w w' := by
  have hz : (200 : Int) < (n : Int) := by omega
  have HS := Lib.hid sortsL_any
  go_enter Try.func6, Try.ntmps6
  go_wp2_with fail
  with_reducible refine (HS.out _).mono ?_
  rintro e w1 ⟨rfl, hb⟩
  go_wp2
  go_ret
  exact ⟨rfl, hb⟩

set_option maxHeartbeats 4000000 in
theorem sortTells_short (A A2 : Option Addr) (c c2 : Nat) (l es : List Int) (w : World) (hr : IRow w w.heap.size A l) (hr2 : IRow w w.heap.size A2 es) (hn : l.length ≤ 200) (hm : es.length ≤ 17592186043904) :
    Calls Try.prog 6 #[.slice A l.length c, .slice A2 es.length c2] w fun e w' => e = .returned (.bool true) ∧ Below w.heap.size w w' := by
  have HA : Row w w.heap.size A l.length (fun k => .int .i64 (l.getD k 0)) := hr
  have HB : Hid (∀ W A' A1, Below w.heap.size w W → IRow W W.heap.size A' l → IRow W W.heap.size A1 (endsI l) → SS w A A2 A' A1 l es W) := Lib.hid fun W A' A1 h1 h2 h3 => ⟨h1, hr.on h1, hr2.on h1, h2, h3⟩
  have HE := Lib.hid (fun (W : World) (A' : Option Addr) (c' : Nat) (h : IRow W W.heap.size A' l) => ends_ints A' c' l W h (by omega))
  have hz : ¬ (200 : Int) < (l.length : Int) := by omega
  have hmx : l.length ≤ maxLen := by unfold maxLen; omega
  have Hei := Lib.hid (endsI_length l)
  have HSo := Lib.hid sortsL_any
  have el : (endsI l).length ≤ 200 := by rw [endsI_length]; exact hn
  have hla := alikeL_len l (endsI l)
  have hlb := alikeL_len l es
  have hlc := aheadL_len l (endsI l)
  have hld := aheadL_len l es
  have G1 : Hid (∀ A' A1 : Option Addr, ∀ c' c1 : Nat, l.length ≤ c' → Same1 w A A2 A' A1 l es (endsI l) 24 #[.slice A l.length c] ∧
      (Same1 w A A2 A' A1 l es (alikeL l (endsI l)) 27 #[.slice A' l.length c', .slice A1 (endsI l).length c1] ∧ Same2 w A A2 A' A1 l es (alikeL l (endsI l)) 28 #[.slice A l.length c, .slice A1 (endsI l).length c1]) ∧
      (Same1 w A A2 A' A1 l es (alikeL l es) 27 #[.slice A' l.length c', .slice A2 es.length c2] ∧ Same2 w A A2 A' A1 l es (alikeL l es) 28 #[.slice A l.length c, .slice A2 es.length c2]) ∧
      (Same1 w A A2 A' A1 l es (En.aheadOf l (endsI l)) 29 #[.slice A' l.length c', .slice A1 (endsI l).length c1] ∧ Same2 w A A2 A' A1 l es (En.aheadOf l (endsI l)) 30 #[.slice A l.length c, .slice A1 (endsI l).length c1]) ∧
      (Same1 w A A2 A' A1 l es (En.aheadOf l es) 29 #[.slice A' l.length c', .slice A2 es.length c2] ∧ Same2 w A A2 A' A1 l es (En.aheadOf l es) 30 #[.slice A l.length c, .slice A2 es.length c2])) := Lib.hid fun A' A1 c' c1 hc' =>
    ⟨same1 fun W h => endsOf_any A c l W h.r0 (by omega),
     ⟨same1 fun W h => alike_ints A' A1 c' c1 l (endsI l) W h.rc h.r1 (by omega) (by omega), same2 fun W h => alikeOf_ints A A1 c c1 l (endsI l) W h.r0 h.r1 (by omega) (by omega)⟩,
     ⟨same1 fun W h => alike_ints A' A2 c' c2 l es W h.rc h.r2 (by omega) (by omega), same2 fun W h => alikeOf_ints A A2 c c2 l es W h.r0 h.r2 (by omega) (by omega)⟩,
     ⟨same1 fun W h => ahead_any A' A1 c' c1 l (endsI l) W h.rc h.r1 (by omega) (by omega), same2 fun W h => aheadOf_any A A1 c c1 l (endsI l) W h.r0 h.r1 (by omega) (by omega)⟩,
     ⟨same1 fun W h => ahead_any A' A2 c' c2 l es W h.rc h.r2 (by omega) (by omega), same2 fun W h => aheadOf_any A A2 c c2 l es W h.r0 h.r2 (by omega) (by omega)⟩⟩
  have G3 : Hid (∀ A' A1 : Option Addr, Same3 w A A2 A' A1 l es (endsI l) ∧ Same3 w A A2 A' A1 l es l ∧ Same3 w A A2 A' A1 l es (alikeL l (endsI l)) ∧ Same3 w A A2 A' A1 l es (alikeL l es) ∧ Same3 w A A2 A' A1 l es (En.aheadOf l (endsI l)) ∧ Same3 w A A2 A' A1 l es (En.aheadOf l es)) := Lib.hid fun A' A1 =>
    ⟨same3 (by omega), same3 (by omega), same3 (by omega), same3 (by omega), same3 (by omega), same3 (by omega)⟩
  have G4 : Hid (∀ (A' A1 : Option Addr) (c' : Nat), l.length ≤ c' → ∀ W, SS w A A2 A' A1 l es W → Calls Try.prog 25 #[.slice A' l.length c'] W fun e w' => e = .returned (.bool (En.good l)) ∧ SS w A A2 A' A1 l es w') := Lib.hid fun A' A1 c' hc' W h =>
    (goodL_any A' c' l W h.rc (by omega) hc').mono fun _ _ ⟨h1, h2⟩ => ⟨h1, h.on h2⟩
  have G5 : Hid (∀ (A' A1 : Option Addr), ∀ W, SS w A A2 A' A1 l es W → Calls Try.prog 26 #[.slice A l.length c] W fun e w' => e = .returned (.bool (En.good l)) ∧ SS w A A2 A' A1 l es w') := Lib.hid fun A' A1 W h =>
    (isList_any A c l W h.r0 (by omega)).mono fun _ _ ⟨h1, h2⟩ => ⟨h1, h.on h2⟩
  have HAr := Lib.hid HA
  clear HA hr hr2 hla hlb hlc hld el
  generalize En.good l = gd at *
  generalize hL1 : alikeL l (endsI l) = L1 at *
  generalize hL2 : alikeL l es = L2 at *
  generalize hL3 : En.aheadOf l (endsI l) = L3 at *
  generalize hL4 : En.aheadOf l es = L4 at *
  clear hL1 hL2 hL3 hL4
  go_enter Try.func6, Try.ntmps6
  go_wp2_with (at_builtin; refine wpList_copy_cap _ rfl _ _ 25 rfl 3 (.int .i64 0) 8 Try.underlying25 infoInt' rfl A l.length c (fun k => .int .i64 (l.getD k 0)) rfl rfl HAr.out (fun _ _ => rfl) hmx (by omega) ?_; intro A' c' w1 hc' hr1 hb1)
  with_reducible refine (HE.out _ _ _ ?_).mono ?_
  exact hr1
  rintro e w2 ⟨A1, c1, rfl, h1, h2⟩
  have S := HB.out w2 A' A1 (hb1.trans (h2.mono hb1.size)) (IRow.on (show IRow w1 w1.heap.size A' l from hr1) h2) h1
  obtain ⟨g1, ⟨g2, g3⟩, ⟨g4, g5⟩, ⟨g6, g7⟩, g8, g9⟩ := G1.out A' A1 c' c1 hc'
  obtain ⟨e1, e2, e3, e4, e5, e6⟩ := G3.out A' A1
  have q4 := Lib.hid (G4.out A' A1 c' hc')
  have q5 := Lib.hid (G5.out A' A1)
  clear G1 G3 G4 G5 HB HE h1 h2 hb1 hr1 HAr
  have hgd : (gd != gd) = false := by simp
  go_wp2_with fail
  with_reducible refine (g1.use _ S).mono ?_
  clear S
  rintro e w3 ⟨X, cx, rfl, x, S⟩
  go_wp2_with fail
  with_reducible refine (e1.use _ _ _ _ _ S S.r1 x).mono ?_
  clear S x
  rintro e w4 ⟨rfl, S⟩
  go_wp2_with fail
  with_reducible refine (e2.use _ _ _ _ _ S S.rc S.r0).mono ?_
  clear S
  rintro e w5 ⟨rfl, S⟩
  go_wp2_with fail
  with_reducible refine (q4.out _ S).mono ?_
  clear S
  rintro e w6 ⟨rfl, S⟩
  go_wp2_with fail
  with_reducible refine (q5.out _ S).mono ?_
  clear S
  rintro e w7 ⟨rfl, S⟩
  go_wp2_with fail
  with_reducible refine (g2.use _ S).mono ?_
  clear S
  rintro e wa ⟨Xa, ca, rfl, x, S⟩
  go_wp2_with fail
  with_reducible refine (g3.use _ _ S x).mono ?_
  clear S x
  rintro e wb ⟨Xb, cb, rfl, x, y, S⟩
  go_wp2_with fail
  with_reducible refine (e3.use _ _ _ _ _ S x y).mono ?_
  clear S x y
  rintro e wc ⟨rfl, S⟩
  go_wp2_with fail
  with_reducible refine (g4.use _ S).mono ?_
  clear S
  rintro e wa ⟨Xa, ca, rfl, x, S⟩
  go_wp2_with fail
  with_reducible refine (g5.use _ _ S x).mono ?_
  clear S x
  rintro e wb ⟨Xb, cb, rfl, x, y, S⟩
  go_wp2_with fail
  with_reducible refine (e4.use _ _ _ _ _ S x y).mono ?_
  clear S x y
  rintro e wc ⟨rfl, S⟩
  go_wp2_with fail
  with_reducible refine (g6.use _ S).mono ?_
  clear S
  rintro e wa ⟨Xa, ca, rfl, x, S⟩
  go_wp2_with fail
  with_reducible refine (g7.use _ _ S x).mono ?_
  clear S x
  rintro e wb ⟨Xb, cb, rfl, x, y, S⟩
  go_wp2_with fail
  with_reducible refine (e5.use _ _ _ _ _ S x y).mono ?_
  clear S x y
  rintro e wc ⟨rfl, S⟩
  go_wp2_with fail
  with_reducible refine (g8.use _ S).mono ?_
  clear S
  rintro e wa ⟨Xa, ca, rfl, x, S⟩
  go_wp2_with fail
  with_reducible refine (g9.use _ _ S x).mono ?_
  clear S x
  rintro e wb ⟨Xb, cb, rfl, x, y, S⟩
  go_wp2_with fail
  with_reducible refine (e6.use _ _ _ _ _ S x y).mono ?_
  clear S x y
  rintro e wc ⟨rfl, S⟩
  go_wp2_with fail
  with_reducible refine (HSo.out _).mono ?_
  rintro e wd ⟨rfl, hd⟩
  go_wp2
  go_ret
  exact ⟨rfl, S.old.trans (hd.mono S.old.size)⟩

theorem sortTells_any (A A2 : Option Addr) (c c2 : Nat) (l es : List Int) (w : World) (hr : IRow w w.heap.size A l) (hr2 : IRow w w.heap.size A2 es) (hm : es.length ≤ 17592186043904) :
    Calls Try.prog 6 #[.slice A l.length c, .slice A2 es.length c2] w fun e w' => e = .returned (.bool true) ∧ Below w.heap.size w w' := by
  by_cases h : l.length ≤ 200
  · exact sortTells_short A A2 c c2 l es w hr hr2 h hm
  · exact sortTells_long A A2 l.length c es.length c2 w (by omega)

end Go.Proofs.Ytnmhjhfdgfdooaa
