/- The walk of the law CombSplits. -/
import Derived.Test.YtelapijdpcoekaaCr
import Derived.Test.YtelapijdpcoekaaAr
namespace Go.Proofs.Ytelapijdpcoekaa
open Go.RowKit
attribute [local irreducible] Bt.pop Bt.popF

set_option maxRecDepth 100000 in
set_option maxHeartbeats 1000000 in
theorem combSplits_no (A A2 : Option Addr) (n c n2 c2 : Nat) (w : World) (hM : Calls Try.prog 49 #[.slice A n c] w (NoComb w)) :
    Calls Try.prog 11 #[.slice A n c, .slice A2 n2 c2] w fun e w' => e = .returned (.bool true) ∧ Below w.heap.size w w' := by
  have HM := Lib.hid hM
  have HW := Lib.hid (fun W => combsK_any W)
  clear hM
  go_enter Try.func11, Try.ntmps11
  go_wp2_with fail
  with_reducible refine HM.out.mono ?_
  rintro e w1 ⟨rfl, hb1⟩
  have hb2 := hb1.alloc hb1.size (.cells #[.slice none 0 0, .int .i64 0, .int .i64 0, .slice none 0 0, .slice none 0 0] 59)
  clear HM
  go_wp2_with fail
  with_reducible refine (HW.out _).mono ?_
  rintro e w2 ⟨rfl, hb3⟩
  have hb4 := hb2.trans (hb3.mono hb2.size)
  clear HW
  go_wp2
  go_ret
  exact ⟨rfl, hb4⟩

set_option maxRecDepth 100000 in
set_option maxHeartbeats 1000000 in
theorem combSplits_long (A A2 : Option Addr) (c n2 c2 : Nat) (l : List Int) (w : World) (hr : IRow w w.heap.size A l) (hcap : l.length ≤ c) (hg : En.good l = true) (hs : l.length ≤ 4096) (hf : En.most l < 1024) (hl : 150 < l.length) :
    Calls Try.prog 11 #[.slice A l.length c, .slice A2 n2 c2] w fun e w' => e = .returned (.bool true) ∧ Below w.heap.size w w' := by
  have HM := Lib.hid (combMake_in A c l w hr hcap hg hs hf)
  have HW := Lib.hid (fun W => combsK_any W)
  have hz : (150 : Int) < (l.length : Int) := by omega
  clear hr hf hg
  generalize hN : l.length = N at *
  generalize En.most l + 2 = M at *
  clear hN
  go_enter Try.func11, Try.ntmps11
  go_wp2_with fail
  with_reducible refine HM.out.mono ?_
  rintro e w1 ⟨E, L, S, cE, cL, cS, rfl, _, _, _, hb1⟩
  have hb2 := hb1.alloc hb1.size (.cells #[.slice E N cE, .int .i64 N, .int .i64 10, .slice L 10 cL, .slice S M cS] 59)
  clear HM
  go_wp2_with fail
  with_reducible refine (HW.out _).mono ?_
  rintro e w2 ⟨rfl, hb3⟩
  have hb4 := hb2.trans (hb3.mono hb2.size)
  clear HW
  go_wp2
  go_ret
  exact ⟨rfl, hb4⟩

/-- the sum of the first k -/
def sumF (f : Nat → Nat) (K : List Nat) (k : Nat) : Nat := ((K.take k).map f).sum
theorem sumF_zero (f : Nat → Nat) (K : List Nat) : sumF f K 0 = 0 := by simp [sumF]
theorem sumF_succ (f : Nat → Nat) (K : List Nat) (k : Nat) (h : k < K.length) : sumF f K (k + 1) = sumF f K k + f (K.getD k 0) := by
  unfold sumF
  rw [List.take_succ_eq_append_getElem h, List.map_append, List.sum_append]
  simp [h]
theorem sumF_all (f : Nat → Nat) (K : List Nat) : sumF f K K.length = (K.map f).sum := by unfold sumF; rw [List.take_length]
theorem sumF_le (f : Nat → Nat) (K : List Nat) (b : Nat) (hf : ∀ v, f v ≤ b) (k : Nat) : sumF f K k ≤ k * b := by
  induction k with
  | zero => rw [sumF_zero]; omega
  | succ k ih =>
    by_cases h : k < K.length
    · rw [sumF_succ f K k h, Nat.add_mul]
      have := hf (K.getD k 0)
      omega
    · have : sumF f K (k + 1) = sumF f K k := by
        unfold sumF
        rw [List.take_of_length_le (by omega), List.take_of_length_le (by omega)]
      rw [this, Nat.add_mul]
      omega
theorem plc_le (l s : List Int) : (En.plc l s).length ≤ l.length := Nat.le_trans (List.length_filter_le _ _) (by simp)
theorem bhd_len (l s : List Int) : (En.bhd l s).length ≤ En.most l + 1 := Nat.le_trans (List.length_filter_le _ _) (by simp)
theorem bfr_len (l s : List Int) : (En.bfr l s).length ≤ En.most l + 1 := Nat.le_trans (List.length_filter_le _ _) (by simp)
theorem up_get (K : List Nat) (i : Nat) : (up K).getD i 0 = ((K.getD i 0 : Nat) : Int) := by
  unfold up
  simp only [List.getD_eq_getElem?_getD, List.getElem?_map]
  cases K[i]? <;> rfl

/-- what the law looks at -/
structure LS (w : World) (B : Nat) (E L S : Option Addr) (cE cL cS N M : Nat) (A2 : Option Addr) (l s : List Int) (W : World) : Prop where
  cb : CB w B E L S cE cL cS N M l W
  sg : IRow W W.heap.size A2 s
section
variable {w : World} {B : Nat} {E L S : Option Addr} {cE cL cS N M : Nat} {A2 : Option Addr} {l s : List Int} {W W' : World}
theorem LS.on (h : LS w B E L S cE cL cS N M A2 l s W) (hb : Below W.heap.size W W') : LS w B E L S cE cL cS N M A2 l s W' := ⟨h.cb.on hb, h.sg.on hb⟩
theorem LS.sgRow (h : LS w B E L S cE cL cS N M A2 l s W) (n2 : Nat) (hn : s.length = n2) : Row W W.heap.size A2 n2 (fun i => .int .i64 (s.getD i 0)) := by
  have := h.sg
  unfold IRow at this
  rwa [hn] at this
end
theorem grown_below {W W' : World} (h : W.grownBy W' none) : Below W.heap.size W W' := (Below.refl _ W).grown h (Nat.le_refl _) (fun k hk => by cases hk)
theorem grown_own {W W' : World} {n : Nat} {r : Option Nat} (h : W.grownBy W' r) (hn : n ≤ W.heap.size) (hr : ∀ g, r = some g → n ≤ g) : Below n W W' := (Below.refl n W).grown h hn hr
/-- signs, and one behind them, in a row of the call's own -/
theorem own_snoc {W : World} {base n2 : Nat} {v : Value} {s : List Int} {x : Int} (hn : s.length = n2) (h : W.ownsRow base 3 1 v (n2 + 1) ([] ++ (List.range n2).map (fun i => Value.int .i64 (s.getD i 0)) ++ [.int .i64 x])) : ∃ X cx, v = .slice X (n2 + 1) cx ∧ n2 + 1 ≤ cx ∧ IRow W W.heap.size X (s ++ [x]) := by
  obtain ⟨X, cx, rfl, hc⟩ := own_slice h
  have e : ([] ++ (List.range n2).map (fun i => Value.int .i64 (s.getD i 0)) ++ [Value.int .i64 x]) = (s ++ [x]).map (Value.int .i64) := by
    subst hn
    rw [List.map_append, map_range_getD s 0 (Value.int .i64)]
    rfl
  rw [e] at h
  obtain ⟨h2, h3⟩ := own_row (0 : Int) h
  refine ⟨X, cx, rfl, hc, ?_⟩
  rw [h2] at h3
  exact h3
theorem own_cons {W : World} {base n2 : Nat} {v : Value} {s : List Int} {x : Int} (hn : s.length = n2) (h : W.ownsRow base 3 1 v (1 + n2) ([Value.int .i64 x] ++ (List.range n2).map (fun i => Value.int .i64 (s.getD i 0)))) : ∃ X cx, v = .slice X (1 + n2) cx ∧ 1 + n2 ≤ cx ∧ IRow W W.heap.size X (x :: s) := by
  obtain ⟨X, cx, rfl, hc⟩ := own_slice h
  have e : ([Value.int .i64 x] ++ (List.range n2).map (fun i => Value.int .i64 (s.getD i 0))) = (x :: s).map (Value.int .i64) := by
    subst hn
    rw [List.map_cons, map_range_getD s 0 (Value.int .i64)]
    rfl
  rw [e] at h
  obtain ⟨h2, h3⟩ := own_row (0 : Int) h
  refine ⟨X, cx, rfl, hc, ?_⟩
  rw [h2] at h3
  exact h3

set_option maxRecDepth 100000 in
set_option maxHeartbeats 4000000 in
theorem combSplits_short (A A2 : Option Addr) (c c2 : Nat) (l s : List Int) (w : World) (hr : IRow w w.heap.size A l) (hr2 : IRow w w.heap.size A2 s) (hcap : l.length ≤ c) (hcap2 : s.length ≤ c2) (hg : En.good l = true) (hf : En.most l < 1024) (hl : l.length ≤ 150) (hs : s.length ≤ 17592186043904) :
    Calls Try.prog 11 #[.slice A l.length c, .slice A2 s.length c2] w fun e w' => e = .returned (.bool true) ∧ Below w.heap.size w w' := by
  have hsg := En.Sg.of_good hg
  have HM := Lib.hid (combMake_in A c l w hr hcap hg (by omega) hf)
  have HW := Lib.hid (fun W => combsK_any W)
  have hz : ¬ ((150 : Int) < (l.length : Int)) := by omega
  have HrA : Hid (∀ W, Below w.heap.size w W → IRow W W.heap.size A2 s) := Lib.hid fun W hW => hr2.on hW
  have HBh : Hid (∀ (B : Nat) (E L S : Option Addr) (cE cL cS N M : Nat) W, LS w B E L S cE cL cS N M A2 l s W → Calls Try.prog 53 #[.agg #[.slice E N cE, .int .i64 N, .int .i64 10, .slice L 10 cL, .slice S M cS], .slice A2 s.length c2] W fun e w' => ∃ X cx, e = .returned (.slice X (En.bhd l s).length cx) ∧ IRow w' w'.heap.size X (up (En.bhd l s)) ∧ LS w B E L S cE cL cS N M A2 l s w') :=
    Lib.hid fun B E L S cE cL cS N M W h => by
      refine (behinds_any E L S A2 cE cL cS N M c2 l s W h.cb.cmb h.cb.len h.cb.num h.cb.capE h.cb.capL h.sg (by omega)).mono ?_
      rintro e w' ⟨X, cx, h1, h2, h3⟩
      rw [up_len] at h1
      exact ⟨X, cx, h1, h2, h.on h3⟩
  have HBf : Hid (∀ (B : Nat) (E L S : Option Addr) (cE cL cS N M : Nat) W, LS w B E L S cE cL cS N M A2 l s W → Calls Try.prog 54 #[.agg #[.slice E N cE, .int .i64 N, .int .i64 10, .slice L 10 cL, .slice S M cS], .slice A2 s.length c2] W fun e w' => ∃ X cx, e = .returned (.slice X (En.bfr l s).length cx) ∧ IRow w' w'.heap.size X (up (En.bfr l s)) ∧ LS w B E L S cE cL cS N M A2 l s w') :=
    Lib.hid fun B E L S cE cL cS N M W h => by
      refine (befores_any E L S A2 cE cL cS N M c2 l s W h.cb.cmb h.cb.len h.cb.num h.cb.capE h.cb.capL h.sg hcap2 (by omega)).mono ?_
      rintro e w' ⟨X, cx, h1, h2, h3⟩
      rw [up_len] at h1
      exact ⟨X, cx, h1, h2, h.on h3⟩
  have HCn : Hid (∀ (B : Nat) (E L S : Option Addr) (cE cL cS N M : Nat) W (X : Option Addr) (n c' : Nat) (t : List Int), LS w B E L S cE cL cS N M A2 l s W → n = t.length → IRow W W.heap.size X t → n ≤ c' → n ≤ 17592186044416 → Calls Try.prog 52 #[.agg #[.slice E N cE, .int .i64 N, .int .i64 10, .slice L 10 cL, .slice S M cS], .slice X n c'] W fun e w' => e = .returned (.int .i64 ((En.plc l t).length : Nat)) ∧ Below W.heap.size W w' ∧ LS w B E L S cE cL cS N M A2 l s w') :=
    Lib.hid fun B E L S cE cL cS N M W X n c' t h hn hX hc hs => by
      subst hn
      exact (count_any E L S X cE cL cS N M c' l t W h.cb.cmb h.cb.len h.cb.num h.cb.capE h.cb.capL hX hc hs).mono fun e w' hh => ⟨hh.1, hh.2, h.on hh.2⟩
  have HPl : Hid (∀ (B : Nat) (E L S : Option Addr) (cE cL cS N M : Nat) W, LS w B E L S cE cL cS N M A2 l s W → Calls Try.prog 51 #[.agg #[.slice E N cE, .int .i64 N, .int .i64 10, .slice L 10 cL, .slice S M cS], .slice A2 s.length c2] W fun e w' => ∃ X cx, e = .returned (.slice X (En.plc l s).length cx) ∧ IRow w' w'.heap.size X (up (En.plc l s)) ∧ LS w B E L S cE cL cS N M A2 l s w') :=
    Lib.hid fun B E L S cE cL cS N M W h => by
      refine (places_any E L S A2 cE cL cS N M c2 l s W h.cb.cmb h.cb.len h.cb.num h.cb.capE h.cb.capL h.sg hcap2 (by omega)).mono ?_
      rintro e w' ⟨X, cx, h1, h2, h3⟩
      rw [up_len] at h1
      exact ⟨X, cx, h1, h2, h.on h3⟩
  have HCs : Hid (∀ (B : Nat) (E L S : Option Addr) (cE cL cS N M : Nat) W, LS w B E L S cE cL cS N M A2 l s W → Calls Try.prog 52 #[.agg #[.slice E N cE, .int .i64 N, .int .i64 10, .slice L 10 cL, .slice S M cS], .slice A2 s.length c2] W fun e w' => e = .returned (.int .i64 ((En.plc l s).length : Nat)) ∧ LS w B E L S cE cL cS N M A2 l s w') :=
    Lib.hid fun B E L S cE cL cS N M W h => (HCn.out B E L S cE cL cS N M W A2 s.length c2 s h rfl h.sg hcap2 (by omega)).mono fun e w' hh => ⟨hh.1, hh.2.2⟩
  have hpl := plc_le l s
  obtain ⟨fB, hfB⟩ : ∃ f : Nat → Nat, f = fun v => (En.plc l (s ++ [((v : Nat) : Int)])).length := ⟨_, rfl⟩
  obtain ⟨fF, hfF⟩ : ∃ f : Nat → Nat, f = fun v => (En.plc l (((v : Nat) : Int) :: s)).length := ⟨_, rfl⟩
  have HfB : Hid (∀ v : Nat, (En.plc l (s ++ [(v : Int)])).length = fB v) := Lib.hid fun v => by rw [hfB]
  have HfF : Hid (∀ v : Nat, (En.plc l ((v : Int) :: s)).length = fF v) := Lib.hid fun v => by rw [hfF]
  have HbB : Hid (∀ v, fB v ≤ 150) := Lib.hid fun v => by rw [hfB]; exact Nat.le_trans (plc_le _ _) hl
  have HbF : Hid (∀ v, fF v ≤ 150) := Lib.hid fun v => by rw [hfF]; exact Nat.le_trans (plc_le _ _) hl
  have HsB : Hid (sumF fB (En.bhd l s) (En.bhd l s).length = ((En.plc l s).filter fun p => decide (p + s.length < l.length)).length) := Lib.hid (by rw [sumF_all, hfB, En.bhd_sum hsg])
  have HsF : Hid (s ≠ [] → sumF fF (En.bfr l s) (En.bfr l s).length = ((En.plc l s).filter fun p => decide (0 < p)).length) := Lib.hid fun h => by rw [sumF_all, hfF, En.bfr_sum hsg s h]
  have HeB := Lib.hid (En.plc_end l s)
  have HeF := Lib.hid (En.plc_front l s)
  have Hnil : Hid (s = [] → ((En.plc l s).filter fun p => decide (p + s.length < l.length)).length = l.length) := Lib.hid fun h => by
    subst h
    rw [En.plc_nil, List.filter_eq_self.2 (fun p hp => by simpa using List.mem_range.1 hp), List.length_range]
  have hlB := bhd_len l s
  have hlF := bfr_len l s
  have HgB := Lib.hid (up_get (En.bhd l s))
  have HgF := Lib.hid (up_get (En.bfr l s))
  have HgP := Lib.hid (up_get (En.plc l s))
  have HuB := Lib.hid (up_len (En.bhd l s))
  have HuF := Lib.hid (up_len (En.bfr l s))
  have HuP := Lib.hid (up_len (En.plc l s))
  have HS0 : Hid (s.length = 0 ↔ s = []) := Lib.hid List.length_eq_zero_iff
  clear hr hr2 hg hcap hcap2 hsg hfB hfF
  generalize hN : l.length = N at *
  generalize hM2 : En.most l + 2 = M at *
  have HN := Lib.hid hN
  have HM2 := Lib.hid hM2
  have hlB2 : (En.bhd l s).length ≤ 1024 := by omega
  have hlF2 : (En.bfr l s).length ≤ 1024 := by omega
  clear hN hM2 hlB hlF hf
  generalize hn2 : s.length = n2 at *
  have HN2 := Lib.hid hn2
  clear hn2
  go_enter Try.func11, Try.ntmps11
  go_wp2_with fail
  with_reducible refine HM.out.mono ?_
  rintro e w1 ⟨E, L, S, cE, cL, cS, rfl, hE, hL, hC, hb1⟩
  have J0 : CB w w1.heap.size E L S cE cL cS N M l (w1.alloc (.cells #[.slice E N cE, .int .i64 N, .int .i64 10, .slice L 10 cL, .slice S M cS] 59)) := CB.start hC HN.out.symm HM2.out.symm hE hL hb1 59
  clear HM hC hb1 hE hL
  go_wp2_with fail
  with_reducible refine (HW.out _).mono ?_
  rintro e w2 ⟨rfl, hb2⟩
  have J1 := J0.on hb2
  clear HW J0 hb2
  generalize w1.heap.size = B at *
  have F1 : LS w B E L S cE cL cS N M A2 l s w2 := ⟨J1, HrA.out w2 J1.old⟩
  have c0 := F1.cb.c0
  have c1 := F1.cb.c1
  have c2' := F1.cb.c2
  have c3 := F1.cb.c3
  have c4 := F1.cb.c4
  clear J1 HrA
  go_wp2_with fail
  with_reducible refine (HBh.out B E L S cE cL cS N M w2 F1).mono ?_
  rintro e w3 ⟨X, cx, rfl, hX, F3⟩
  clear HBh F1 c0 c1 c2' c3 c4
  generalize hkB : (En.bhd l s).length = kB at *
  have HkB := Lib.hid hkB
  clear hkB
  go_wp2
  go_loopw [7, 38] (fun s7 t W => ∃ k : Nat, k ≤ kB ∧ t = .int .i64 k ∧ s7 = .int .i64 (sumF fB (En.bhd l s) k : Nat) ∧ IRow W W.heap.size X (up (En.bhd l s)) ∧ LS w B E L S cE cL cS N M A2 l s W) (fun _ t _ => kB - (intOf t).toNat)
  case atStart => exact ⟨0, Nat.zero_le _, rfl, by rw [sumF_zero]; rfl, hX, F3⟩
  case round =>
    clear F3 hX
    obtain ⟨k, hk, rfl, rfl, hX, F⟩ := hrel
    generalize wr = V at *
    by_cases hlt : k < kB
    · have hlz : (k : Int) < (kB : Int) := by omega
      obtain ⟨b1, o1, rfl, d1⟩ := irow_at hX k (by rw [HuB.out]; exact hlt)
      rw [HgB.out] at d1
      have e1 := sumF_succ fB (En.bhd l s) k (by rw [HkB.out]; exact hlt)
      have e2 := sumF_le fB (En.bhd l s) 150 HbB.out k
      generalize (En.bhd l s).getD k 0 = x at *
      have e3 := HbB.out x
      have HfBx := Lib.hid (HfB.out x)
      generalize sumF fB (En.bhd l s) k = a0 at *
      generalize hs1 : sumF fB (En.bhd l s) (k + 1) = a1 at *
      have HS1 := Lib.hid hs1
      have v1 : IntKind.i64.wrap ((a0 : Int) + (fB x : Int)) = (a1 : Int) := by rw [w64 _ (by omega) (by omega)]; omega
      clear hs1 e1 e2 e3
      have HCk : Hid (∀ W (X' : Option Addr) (c' : Nat), LS w B E L S cE cL cS N M A2 l s W → IRow W W.heap.size X' (s ++ [(x : Int)]) → n2 + 1 ≤ c' → Calls Try.prog 52 #[.agg #[.slice E N cE, .int .i64 N, .int .i64 10, .slice L 10 cL, .slice S M cS], .slice X' (n2 + 1) c'] W fun e w' => e = .returned (.int .i64 (fB x : Nat)) ∧ Below W.heap.size W w' ∧ LS w B E L S cE cL cS N M A2 l s w') := Lib.hid fun W X' c' hW hX' hc => by
        have := HCn.out B E L S cE cL cS N M W X' (n2 + 1) c' (s ++ [(x : Int)]) hW (by rw [List.length_append, HN2.out]; rfl) hX' hc (by omega)
        rwa [HfBx.out] at this
      clear HCn HfB HfF HbB HbF HsB HsF HeB HeF Hnil HgB HgF HgP HuB HuF HuP HfBx
      generalize fB x = m0 at *
      have c0 := F.cb.c0
      have c1 := F.cb.c1
      have c2' := F.cb.c2
      have c3 := F.cb.c3
      have c4 := F.cb.c4
      have q1 : 0 + n2 ≤ maxLen := by unfold maxLen; omega
      have q2 : n2 + 1 ≤ maxLen := by unfold maxLen; omega
      have hBa : Below V.heap.size V V.drew := (Below.refl _ _).drew
      have hBb : Below V.heap.size V (V.drew.alloc (.cells #[.int .i64 x] 3)) := hBa.alloc (Nat.le_refl _) _
      have hxb : (V.drew.alloc (.cells #[.int .i64 x] 3)).cell? ⟨V.heap.size, 0, none⟩ = some (.int .i64 x) := new1 V.drew _ _
      go_wp2_with fail
      go_region_held3 (fun w' => w'.cell? ⟨B, 0, none⟩ = some (.slice E N cE) ∧ w'.cell? ⟨B, 1, none⟩ = some (.int .i64 N) ∧ w'.cell? ⟨B, 2, none⟩ = some (.int .i64 10) ∧ w'.cell? ⟨B, 3, none⟩ = some (.slice L 10 cL) ∧ w'.cell? ⟨B, 4, none⟩ = some (.slice S M cS)) (first | exact ⟨c0, c1, c2', c3, c4⟩ | exact ⟨F9.cb.c0, F9.cb.c1, F9.cb.c2, F9.cb.c3, F9.cb.c4⟩ | exact ⟨F8.cb.c0, F8.cb.c1, F8.cb.c2, F8.cb.c3, F8.cb.c4⟩ | exact ⟨F5.cb.c0, F5.cb.c1, F5.cb.c2, F5.cb.c3, F5.cb.c4⟩ | go_keep)
        (first
          | (refine step_app_row V.drew (by rfl) (.const (.slice none 0 0)) (.tmp 44) 25 (by rfl) V.heap.size 3 (.int .i64 0) 8 Try.underlying25 infoInt4 rfl (.slice none 0 0) 0 [] (by rfl) (World.ownsRow_nil _ _ _ _) A2 n2 c2 (fun i => .int .i64 (s.getD i 0)) (by rfl) ((F.on hBa).sgRow n2 HN2.out) (fun _ _ => rfl) q1 (by omega) hBa.size ?_; intro v5 w5 h5 g5 _; have hB5 := hBa.grown g5 hBa.size (fun g hg => by cases hg); have F5 := F.on hB5; rw [Nat.zero_add] at h5; have h5' := own_below h5 ((Below.refl _ _).alloc (Nat.le_refl _) (.cells #[.int .i64 x] 3)); have hB5' := hB5.alloc hB5.size (.cells #[.int .i64 x] 3); have hx5 := new1 w5 (.int .i64 x) 3)
          | (refine step_app_row (V.drew.alloc (.cells #[.int .i64 x] 3)) (by rfl) (.const (.slice none 0 0)) (.tmp 44) 25 (by rfl) V.heap.size 3 (.int .i64 0) 8 Try.underlying25 infoInt4 rfl (.slice none 0 0) 0 [] (by rfl) (World.ownsRow_nil _ _ _ _) A2 n2 c2 (fun i => .int .i64 (s.getD i 0)) (by rfl) ((F.on hBb).sgRow n2 HN2.out) (fun _ _ => rfl) q1 (by omega) hBb.size ?_; intro v5 w5 h5 g5 _; have hB5' := hBb.grown g5 hBb.size (fun g hg => by cases hg); have F5 := F.on hB5'; rw [Nat.zero_add] at h5; have h5' := h5; have hx5 := (g5.cell_far ⟨V.heap.size, 0, none⟩ (by simp) (by simp [Value.ownBlock])).trans hxb)
          | (refine step_app1 _ (by rfl) (.tmp 45) (.tmp 47) 25 (by rfl) V.heap.size 3 (.int .i64 0) 8 Try.underlying25 infoInt4 rfl v5 n2 _ (by rfl) _ (.int .i64 x) (by rfl) h5' hx5 rfl q2 (by omega) hB5'.size ?_; intro g8 cap8 w8 h8 gr8 _ _; have hB8 := hB5'.grown gr8 hB5'.size (fun g hg => (h5.lt g hg).1); have F8 := F.on hB8; obtain ⟨X8, cx8, hv8, hc8, hX8⟩ := own_snoc HN2.out h8; injection hv8 with hv1 _ hv3; subst hv1 hv3)
          | (go_at_call 52; (with_reducible refine (HCk.out _ _ _ F8 hX8 hc8).mono ?_); rintro e w9 ⟨rfl, hb9, F9⟩))
      all_goals
        clear v1
        go_wp2
        go_roundw
        case rel => exact ⟨k + 1, by omega, by go_num, by rw [HS1.out], hX.on (hB8.trans (hb9.mono hB8.size)), F9⟩
        case measure => simp [intOf]; omega
    · obtain rfl : k = kB := by omega
      have hnbl := sumF_le fB (En.bhd l s) 150 HbB.out k
      generalize sumF fB (En.bhd l s) k = nb at *
      clear hX
      have c0 := F.cb.c0
      have c1 := F.cb.c1
      have c2' := F.cb.c2
      have c3 := F.cb.c3
      have c4 := F.cb.c4
      have HBf1 := Lib.hid (HBf.out B E L S cE cL cS N M V F)
      clear F HBf
      go_wp2_with fail
      with_reducible refine HBf1.out.mono ?_
      rintro e w4 ⟨Y, cy, rfl, hY, F4⟩
      clear HBf1 c0 c1 c2' c3 c4
      generalize hkF : (En.bfr l s).length = kF at *
      have HkF := Lib.hid hkF
      clear hkF
      go_wp2
      go_loopw [8, 56] (fun s8 t W => ∃ k : Nat, k ≤ kF ∧ t = .int .i64 k ∧ s8 = .int .i64 (sumF fF (En.bfr l s) k : Nat) ∧ IRow W W.heap.size Y (up (En.bfr l s)) ∧ LS w B E L S cE cL cS N M A2 l s W) (fun _ t _ => kF - (intOf t).toNat)
      case atStart => exact ⟨0, Nat.zero_le _, rfl, by rw [sumF_zero]; rfl, hY, F4⟩
      case round =>
        clear F4 hY
        obtain ⟨k, hk, rfl, rfl, hY, F⟩ := hrel
        generalize wr = V at *
        by_cases hlt : k < kF
        · have hlz : (k : Int) < (kF : Int) := by omega
          obtain ⟨b1, o1, rfl, d1⟩ := irow_at hY k (by rw [HuF.out]; exact hlt)
          rw [HgF.out] at d1
          have e1 := sumF_succ fF (En.bfr l s) k (by rw [HkF.out]; exact hlt)
          have e2 := sumF_le fF (En.bfr l s) 150 HbF.out k
          generalize (En.bfr l s).getD k 0 = x at *
          have e3 := HbF.out x
          have HfFx := Lib.hid (HfF.out x)
          generalize sumF fF (En.bfr l s) k = a0 at *
          generalize hs1 : sumF fF (En.bfr l s) (k + 1) = a1 at *
          have HS1 := Lib.hid hs1
          have HE1' := Lib.hid e1
          clear hs1 e1
          have HCk : Hid (∀ W (X' : Option Addr) (c' : Nat), LS w B E L S cE cL cS N M A2 l s W → IRow W W.heap.size X' ((x : Int) :: s) → 1 + n2 ≤ c' → Calls Try.prog 52 #[.agg #[.slice E N cE, .int .i64 N, .int .i64 10, .slice L 10 cL, .slice S M cS], .slice X' (1 + n2) c'] W fun e w' => e = .returned (.int .i64 (fF x : Nat)) ∧ Below W.heap.size W w' ∧ LS w B E L S cE cL cS N M A2 l s w') := Lib.hid fun W X' c' hW hX' hc => by
            have := HCn.out B E L S cE cL cS N M W X' (1 + n2) c' ((x : Int) :: s) hW (by rw [List.length_cons, HN2.out]; omega) hX' hc (by omega)
            rwa [HfFx.out] at this
          clear HCn HfB HfF HbB HbF HsB HsF HeB HeF Hnil HgB HgF HgP HuB HuF HuP HfFx HPl HCs
          generalize fF x = m0 at *
          have c0 := F.cb.c0
          have c1 := F.cb.c1
          have c2' := F.cb.c2
          have c3 := F.cb.c3
          have c4 := F.cb.c4
          have q1 : 1 + n2 ≤ maxLen := by unfold maxLen; omega
          have hBa : Below V.heap.size V V.drew := (Below.refl _ _).drew
          have hBb : Below V.heap.size V (V.drew.alloc (.cells #[.int .i64 x] 3)) := hBa.alloc (Nat.le_refl _) _
          have Fb := F.on hBb
          have hlit : (V.drew.alloc (.cells #[.int .i64 x] 3)).ownsRow V.heap.size 3 1 (.slice (some ⟨V.heap.size, 0, none⟩) 1 1) 1 [.int .i64 x] := World.ownsRow_lit V.drew #[.int .i64 x] 1 (Nat.le_refl _) (by unfold maxLen; omega) rfl
          go_upto_region 13 with fail
          refine wp_region_takes 7 [0, 1, 2, 4] [3, 5, 6] (fun w' => w'.cell? ⟨B, 0, none⟩ = some (.slice E N cE) ∧ w'.cell? ⟨B, 1, none⟩ = some (.int .i64 N) ∧ w'.cell? ⟨B, 2, none⟩ = some (.int .i64 10) ∧ w'.cell? ⟨B, 3, none⟩ = some (.slice L 10 cL) ∧ w'.cell? ⟨B, 4, none⟩ = some (.slice S M cS)) (by kernel_rfl) (by kernel_rfl) ⟨c0, c1, c2', c3, c4⟩ ?_
          refine wpTakes_cons (v := ?_) _ at0 rfl ?_ ?_ ?_
          rotate_left 1
          · rintro W ⟨x0, x1, x2, x3, x4⟩
            go_simp
            rfl
          · exact fun _ _ _ h => h
          simp only [Act.put, List.setIfInBounds_toArray, List.set_cons_zero, List.set_cons_succ]
          refine wpTakes_cons (v := ?_) _ at1 rfl ?_ ?_ ?_
          rotate_left 1
          · rintro W ⟨x0, x1, x2, x3, x4⟩
            go_simp
            rfl
          · exact fun _ _ _ h => h
          simp only [Act.put, List.setIfInBounds_toArray, List.set_cons_zero, List.set_cons_succ]
          refine wpTakes_cons (v := ?_) _ at2 rfl ?_ ?_ ?_
          rotate_left 1
          · rintro W ⟨x0, x1, x2, x3, x4⟩
            go_simp
            rfl
          · exact fun _ _ _ h => h
          simp only [Act.put, List.setIfInBounds_toArray, List.set_cons_zero, List.set_cons_succ]
          refine wpTakes_cons (v := ?_) _ at4 rfl ?_ ?_ ?_
          rotate_left 1
          · rintro W ⟨x0, x1, x2, x3, x4⟩
            go_simp
            rfl
          · exact fun _ _ _ h => h
          simp only [Act.put, List.setIfInBounds_toArray, List.set_cons_zero, List.set_cons_succ]
          refine wpTakes_nil (wpCalls_cons _ at3 rfl fun K hK => ?_)
          go_simp
          refine hK.out _ _ ⟨Fb.cb.c0, Fb.cb.c1, Fb.cb.c2, Fb.cb.c3, Fb.cb.c4⟩ ?_
          clear hK
          refine wpCalls_cons _ at5 rfl fun K hK => ?_
          refine oper_app_row (V.drew.alloc (.cells #[.int .i64 x] 3)) (.tmp 63) (.tmp 64) 25 rfl V.heap.size 3 (.int .i64 0) 8 Try.underlying25 infoInt4 rfl (.slice (some ⟨V.heap.size, 0, none⟩) 1 1) 1 _ rfl hlit A2 n2 c2 (fun i => .int .i64 (s.getD i 0)) rfl (Fb.sgRow n2 HN2.out) (fun _ _ => rfl) q1 (by omega) hBb.size ?_
          intro v8 w8 h8 gr8 _
          have hB8 := hBb.grown gr8 hBb.size (fun g hg => (hlit.lt g hg).1)
          have F8 := F.on hB8
          obtain ⟨X8, cx8, hv8, hc8, hX8⟩ := own_cons HN2.out h8
          subst hv8
          refine hK.out _ _ ⟨F8.cb.c0, F8.cb.c1, F8.cb.c2, F8.cb.c3, F8.cb.c4⟩ ?_
          clear hK
          simp only [Act.put, List.setIfInBounds_toArray, List.set_cons_zero, List.set_cons_succ]
          refine wpCalls_cons _ at6 rfl fun K hK => ?_
          go_simp
          go_at_call 52
          refine (HCk.out _ _ _ F8 hX8 hc8).mono ?_
          rintro e w9 ⟨rfl, hb9, F9⟩
          refine hK.out _ _ ⟨F9.cb.c0, F9.cb.c1, F9.cb.c2, F9.cb.c3, F9.cb.c4⟩ (wpCalls_nil ?_)
          clear hK
          simp only [List.drop_succ_cons, List.drop_zero]
          go_wp2
          go_roundw
          case rel => exact ⟨k + 1, by omega, by go_num, by rw [HS1.out, HE1'.out]; go_num, hY.on (hB8.trans (hb9.mono hB8.size)), F9⟩
          case measure => simp [intOf]; omega
        · obtain rfl : k = kF := by omega
          have hnfl := sumF_le fF (En.bfr l s) 150 HbF.out k
          generalize sumF fF (En.bfr l s) k = nf at *
          clear hY
          have c0 := F.cb.c0
          have c1 := F.cb.c1
          have c2' := F.cb.c2
          have c3 := F.cb.c3
          have c4 := F.cb.c4
          have HC1 := Lib.hid (HCs.out B E L S cE cL cS N M V F)
          clear F HCs
          go_wp2_with fail
          with_reducible refine HC1.out.mono ?_
          rintro e w5 ⟨rfl, F5⟩
          clear HC1 c0 c1 c2' c3 c4
          have c0 := F5.cb.c0
          have c1 := F5.cb.c1
          have c2' := F5.cb.c2
          have c3 := F5.cb.c3
          have c4 := F5.cb.c4
          have HP1 := Lib.hid (HPl.out B E L S cE cL cS N M w5 F5)
          clear F5 HPl
          go_wp2_with fail
          with_reducible refine HP1.out.mono ?_
          rintro e w6 ⟨X3, cx3, rfl, hX3, F6⟩
          have hold := F6.cb.old
          have HqP : Hid (∀ i, i < (En.plc l s).length → (En.plc l s).getD i 0 ≤ 150) := Lib.hid fun i hi => by
            have h1 : (En.plc l s).getD i 0 ∈ En.plc l s := by
              rw [show (En.plc l s).getD i 0 = (En.plc l s)[i] from by simp [hi]]
              exact List.getElem_mem hi
            have h2 := ((En.plc_mem l s _).1 h1).1
            have h3 := HN.out
            omega
          have HE1 := Lib.hid HeB.out
          have HE2 := Lib.hid HeF.out
          have HFa : Hid (s ≠ [] → nf = ((En.plc l s).filter fun p => decide (0 < p)).length) := Lib.hid HsF.out
          clear HP1 c0 c1 c2' c3 c4 F6 HeB HeF HsF HCn HfB HfF HbB HbF
          generalize (List.filter (fun p => decide (p + n2 < N)) (En.plc l s)).length = fb at *
          generalize (List.filter (fun p => decide (0 < p)) (En.plc l s)).length = ff at *
          generalize (En.plc l s).length = m at *
          by_cases hm : m = 0
          · subst hm
            have hE := HE1.out
            have hF := HE2.out
            rw [if_neg (by simp)] at hE hF
            have hfl : nb = fb := HsB.out
            clear HsB
            by_cases h0 : n2 = 0
            · have hnb := Hnil.out (HS0.out.1 h0)
              obtain rfl : nb = N := by omega
              subst h0
              clear Hnil HS0 HE1 HE2 HFa hnb hfl hE hF
              go_wp2
              go_ret
              exact ⟨by first | rfl | simp, hold⟩
            · have hnf := HFa.out (fun h => h0 (HS0.out.2 h))
              obtain rfl : nb = 0 := by omega
              obtain rfl : nf = 0 := by omega
              have h0' : ((n2 : Int) == 0) = false := by simp; omega
              clear Hnil HS0 HE1 HE2 HFa hnf hfl hE hF
              go_wp2
              go_ret
              exact ⟨by first | rfl | simp, hold⟩
          · obtain ⟨m', rfl⟩ : ∃ m', m = m' + 1 := ⟨m - 1, by omega⟩
            have hm1 : 0 < m' + 1 := by omega
            obtain ⟨b1, o1, hb1', d1⟩ := irow_at hX3 m' (by rw [HuP.out]; omega)
            obtain ⟨b2, o2, hb2', d2⟩ := irow_at hX3 0 (by rw [HuP.out]; omega)
            subst hb1'
            injection hb2' with hb2'
            injection hb2' with e5 e6
            subst e5 e6
            rw [HgP.out] at d1 d2
            rw [Nat.add_zero] at d2
            have hq := HqP.out m' (by omega)
            have hq0 := HqP.out 0 (by omega)
            have hE := HE1.out
            have hF := HE2.out
            rw [Nat.add_sub_cancel] at hE
            generalize (En.plc l s).getD m' 0 = q at *
            generalize (En.plc l s).getD 0 0 = q0 at *
            have hfl : nb = fb := HsB.out
            clear HsB hX3 HuP HgP HqP HE1 HE2
            have HE1 : Hid True := Lib.hid trivial
            have HE2 : Hid True := Lib.hid trivial
            by_cases he : q + n2 = N
            · rw [if_pos ⟨by omega, he⟩] at hE
              have t1 : ((q : Int) + (n2 : Int) == (N : Int)) = true := by simp; omega
              by_cases hf0 : q0 = 0
              · subst hf0
                rw [if_pos ⟨by omega, rfl⟩] at hF
                by_cases h0 : n2 = 0
                · have hnb := Hnil.out (HS0.out.1 h0)
                  obtain rfl : nb = N := by omega
                  subst h0
                  clear Hnil HS0 HE1 HE2 HFa hnb hfl hE hF
                  go_wp2
                  go_ret
                  exact ⟨by first | rfl | simp, hold⟩
                · have hnf := HFa.out (fun h => h0 (HS0.out.2 h))
                  have hx9 : m' = nb := by omega
                  subst hx9
                  obtain rfl : nf = m' := by omega
                  have h0' : ((n2 : Int) == 0) = false := by simp; omega
                  clear Hnil HS0 HE1 HE2 HFa hnf hfl hE hF
                  go_wp2
                  go_ret
                  exact ⟨by first | rfl | simp, hold⟩
              · rw [if_neg (fun h => hf0 h.2)] at hF
                have t2 : ((q0 : Int) == 0) = false := by simp; omega
                clear hf0
                by_cases h0 : n2 = 0
                · have hnb := Hnil.out (HS0.out.1 h0)
                  obtain rfl : nb = N := by omega
                  subst h0
                  clear Hnil HS0 HE1 HE2 HFa hnb hfl hE hF
                  go_wp2
                  go_ret
                  exact ⟨by first | rfl | simp, hold⟩
                · have hnf := HFa.out (fun h => h0 (HS0.out.2 h))
                  have hx9 : m' = nb := by omega
                  subst hx9
                  obtain rfl : nf = m' + 1 := by omega
                  have h0' : ((n2 : Int) == 0) = false := by simp; omega
                  clear Hnil HS0 HE1 HE2 HFa hnf hfl hE hF
                  go_wp2
                  go_ret
                  exact ⟨by first | rfl | simp, hold⟩
            · rw [if_neg (fun h => he h.2)] at hE
              have t1 : ((q : Int) + (n2 : Int) == (N : Int)) = false := by simp; omega
              by_cases hf0 : q0 = 0
              · subst hf0
                rw [if_pos ⟨by omega, rfl⟩] at hF
                by_cases h0 : n2 = 0
                · have hnb := Hnil.out (HS0.out.1 h0)
                  obtain rfl : nb = N := by omega
                  subst h0
                  clear Hnil HS0 HE1 HE2 HFa hnb hfl hE hF
                  go_wp2
                  go_ret
                  exact ⟨by first | rfl | simp, hold⟩
                · have hnf := HFa.out (fun h => h0 (HS0.out.2 h))
                  obtain rfl : nb = m' + 1 := by omega
                  obtain rfl : nf = m' := by omega
                  have h0' : ((n2 : Int) == 0) = false := by simp; omega
                  clear Hnil HS0 HE1 HE2 HFa hnf hfl hE hF
                  go_wp2
                  go_ret
                  exact ⟨by first | rfl | simp, hold⟩
              · rw [if_neg (fun h => hf0 h.2)] at hF
                have t2 : ((q0 : Int) == 0) = false := by simp; omega
                clear hf0
                by_cases h0 : n2 = 0
                · have hnb := Hnil.out (HS0.out.1 h0)
                  obtain rfl : nb = N := by omega
                  subst h0
                  clear Hnil HS0 HE1 HE2 HFa hnb hfl hE hF
                  go_wp2
                  go_ret
                  exact ⟨by first | rfl | simp, hold⟩
                · have hnf := HFa.out (fun h => h0 (HS0.out.2 h))
                  obtain rfl : nb = m' + 1 := by omega
                  obtain rfl : nf = m' + 1 := by omega
                  have h0' : ((n2 : Int) == 0) = false := by simp; omega
                  clear Hnil HS0 HE1 HE2 HFa hnf hfl hE hF
                  go_wp2
                  go_ret
                  exact ⟨by first | rfl | simp, hold⟩

end Go.Proofs.Ytelapijdpcoekaa
