/- longer: Longer of a span is the span of all of it, sign by sign. -/
import Derived.Test.YtelapijdpcoekaaGreatYd
import Derived.Test.YtelapijdpcoekaaGreatAr
namespace Go.Proofs.YtelapijdpcoekaaGreat
open Go.RowKit
attribute [local irreducible] Bt.pop Bt.popF

/-- what it looks at: the index, the span, both lists -/
structure LG (w : World) (E L S A A2 : Option Addr) (cE cL cS N M : Nat) (l s : List Int) (B f t : Nat) (W : World) : Prop where
  cb : CB w w.heap.size E L S cE cL cS N M l W
  sp : W.rowIs B 33 2 (spF f t)
  row : IRow W W.heap.size A l
  sg : IRow W W.heap.size A2 s
section
variable {w : World} {E L S A A2 : Option Addr} {cE cL cS N M : Nat} {l s : List Int} {B f t : Nat} {W W' : World}
theorem LG.on (h : LG w E L S A A2 cE cL cS N M l s B f t W) (hb : Below W.heap.size W W') : LG w E L S A A2 cE cL cS N M l s B f t W' :=
  ⟨h.cb.on hb, h.sp.of_block (hb.block _ h.sp.lt), h.row.on hb, h.sg.on hb⟩
theorem LG.s0 (h : LG w E L S A A2 cE cL cS N M l s B f t W) : W.cell? ⟨B, 0, none⟩ = some (.int .i64 f) := h.sp.cell (i := 0) (by omega)
theorem LG.s1 (h : LG w E L S A A2 cE cL cS N M l s B f t W) : W.cell? ⟨B, 1, none⟩ = some (.int .i64 t) := h.sp.cell (i := 1) (by omega)
theorem LG.sgRow (h : LG w E L S A A2 cE cL cS N M l s B f t W) (n2 : Nat) (hn : s.length = n2) : Row W W.heap.size A2 n2 (fun i => .int .i64 (s.getD i 0)) := by
  have := h.sg
  unfold IRow at this
  rwa [hn] at this
end
theorem own_cons' {W : World} {base n2 : Nat} {v : Value} {s : List Int} {x : Int} (hn : s.length = n2) (h : W.ownsRow base 3 1 v (1 + n2) ([Value.int .i64 x] ++ (List.range n2).map (fun i => Value.int .i64 (s.getD i 0)))) : ∃ X cx, v = .slice X (1 + n2) cx ∧ 1 + n2 ≤ cx ∧ IRow W W.heap.size X (x :: s) := by
  obtain ⟨X, cx, rfl, hc⟩ := own_slice h
  have e : ([Value.int .i64 x] ++ (List.range n2).map (fun i => Value.int .i64 (s.getD i 0))) = (x :: s).map (Value.int .i64) := by
    subst hn
    rw [List.map_cons, map_range_getD s 0 (Value.int .i64)]
    rfl
  rw [e] at h
  obtain ⟨h2, h3⟩ := own_row (0 : Int) h
  refine ⟨X, cx, rfl, hc, ?_⟩
  rw [h2] at h3
  exact h3

theorem ks_row {W : World} {base m : Nat} {X : Option Addr} {cx : Nat} {l : List Int} {x0 : Int} (h : W.ownsRow base 3 1 (.slice X (4 + m) cx) (4 + m) ([Value.int .i64 (-1), Value.int .i64 0, Value.int .i64 1024, Value.int .i64 x0] ++ (List.range m).map (fun i => Value.int .i64 (l.getD i 0)))) :
    IRow W W.heap.size X ([-1, 0, 1024, x0] ++ (List.range m).map fun i => l.getD i 0) := by
  have e : ([Value.int .i64 (-1), Value.int .i64 0, Value.int .i64 1024, Value.int .i64 x0] ++ (List.range m).map (fun i => Value.int .i64 (l.getD i 0))) = ([-1, 0, 1024, x0] ++ (List.range m).map fun i => l.getD i 0).map (Value.int .i64) := by
    rw [List.map_append, List.map_map]
    rfl
  rw [e] at h
  obtain ⟨h9, h10⟩ := own_row (0 : Int) h
  rw [h9] at h10
  exact h10

set_option maxRecDepth 100000 in
set_option maxHeartbeats 4000000 in
theorem longerL_any (E L S A A2 : Option Addr) (cE cL cS N M c c2 : Nat) (l s : List Int) (w : World) (h : Cmb w E L S l) (hN : N = l.length) (hM : M = En.most l + 2) (hE : N ≤ cE) (hL : 10 ≤ cL) (hr : IRow w w.heap.size A l) (hcap : N ≤ c) (hn : N ≤ 150) (hr2 : IRow w w.heap.size A2 s) (hcap2 : s.length ≤ c2) (hs : s.length ≤ 17592186043904) :
    Calls Tryz.prog 10 #[.agg #[.slice E N cE, .int .i64 N, .int .i64 10, .slice L 10 cL, .slice S M cS], .slice A N c, .slice A2 s.length c2] w fun e w' => e = .returned (.bool true) ∧ Below w.heap.size w w' := by
  have hsg := h.sg
  have hpos := hsg.pos
  obtain ⟨w0, hw0⟩ : ∃ w0, w0 = w.alloc (.cells #[.slice E N cE, .int .i64 N, .int .i64 10, .slice L 10 cL, .slice S M cS] 29) := ⟨_, rfl⟩
  have hb0 : Below w.heap.size w w0 := by rw [hw0]; exact (Below.refl _ _).alloc (Nat.le_refl _) _
  have J : CB w w.heap.size E L S cE cL cS N M l w0 := by rw [hw0]; exact CB.start h hN hM hE hL (Below.refl _ _) 29
  have HF := Lib.hid (J.find A2 c2 s (hr2.on hb0) hcap2 (by omega))
  have hsp := En.spn_le l s
  have HLn : Hid (∀ (B f t : Nat) (x : Int) W, f ≤ N → t ≤ N → LG w E L S A A2 cE cL cS N M l s B f t W → Calls Tryz.prog 28 #[.agg #[.slice E N cE, .int .i64 N, .int .i64 10, .slice L 10 cL, .slice S M cS], .agg #[.int .i64 f, .int .i64 t], .int .i64 x] W fun e w' => e = .returned (.agg #[.int .i64 ((En.lgr l f t x).1 : Nat), .int .i64 ((En.lgr l f t x).2 : Nat)]) ∧ Below W.heap.size W w') := Lib.hid fun B f t x W hf ht hW => longer_span E L S cE cL cS N M f t l x W hW.cb.cmb hN hM hE hL (by omega) (by omega)
  have HSp : Hid (∀ (B f t : Nat) (X : Option Addr) (cx : Nat) (x : Int) W, LG w E L S A A2 cE cL cS N M l s B f t W → IRow W W.heap.size X (x :: s) → Calls Tryz.prog 8 #[.slice A N c, .slice X (1 + s.length) cx] W fun e w' => e = .returned (.agg #[.int .i64 ((En.spn l (x :: s)).1 : Nat), .int .i64 ((En.spn l (x :: s)).2 : Nat)]) ∧ Below W.heap.size W w') := Lib.hid fun B f t X cx x W hW hX => by
    have h1 := spanOf_any A X c cx l (x :: s) W hW.row hX (by omega) (by simp only [List.length_cons]; omega)
    rw [List.length_cons, ← hN, Nat.add_comm] at h1
    exact h1
  have HQ : Hid (∀ x : Int, (s.length = 0 ∨ En.spn l s ≠ (0, N)) → En.lgr l (En.spn l s).1 (En.spn l s).2 x = En.spn l (x :: s)) := Lib.hid fun x hx => En.lgr_spn hsg s x (fun _ => by
    rcases hx with h1 | h1
    · exact .inl (List.eq_nil_of_length_eq_zero h1)
    · right; rw [← hN]; exact h1)
  have Hnil : Hid (s.length = 0 → En.spn l s = (0, N)) := Lib.hid fun h0 => by
    rw [List.eq_nil_of_length_eq_zero h0, En.spn_nil hpos, hN]
  have HA : Hid (∀ B f t W, LG w E L S A A2 cE cL cS N M l s B f t W → ∀ i, i < N → ∃ b o, A = some ⟨b, o, none⟩ ∧ W.cell? ⟨b, o + i, none⟩ = some (.int .i64 (l.getD i 0))) := Lib.hid fun B f t W hW i hi => irow_at' hW.row i (by omega)
  have HJ : Hid (∀ W a b, Below w0.heap.size w0 W → LG w E L S A A2 cE cL cS N M l s W.heap.size a b (W.alloc (.cells #[.int .i64 a, .int .i64 b] 33))) := Lib.hid fun W a b hW => by
    have hb := (Below.refl _ W).alloc (Nat.le_refl _) (.cells #[.int .i64 a, .int .i64 b] 33)
    exact ⟨(J.on hW).on hb, spF_alloc W a b 33, ((hr.on hb0).on hW).on hb, ((hr2.on hb0).on hW).on hb⟩
  have hNpos : 0 < N := by omega
  have HNl : Hid (N = l.length) := Lib.hid hN
  have HW0 := Lib.hid hw0
  have hsp2 : (En.spn l s).2 ≤ N := by omega
  have hsp1 : (En.spn l s).1 ≤ N := by omega
  clear h hsg hpos hN hM hw0 hb0 J hr hr2 hsp
  generalize hn2 : s.length = n2 at *
  have Hn2 := Lib.hid hn2
  clear hn2
  generalize En.spn l s = sp at *
  obtain ⟨f, t⟩ := sp
  dsimp only at *
  go_enter Tryz.func10, Tryz.ntmps10
  go_wp2_with fail
  rw [← HW0.out]
  with_reducible refine HF.out.mono ?_
  rintro e w1 ⟨rfl, hb1⟩
  have F1 := HJ.out w1 f t hb1
  have hold := F1.cb.old
  clear HF HW0 HJ hb1
  dsimp only
  by_cases hwh : 0 < n2 ∧ (f = 0 ∧ t = N)
  · obtain ⟨h1, rfl, rfl⟩ := hwh
    have z1 : (0 : Int) < (n2 : Int) := by omega
    clear HLn HSp HQ Hnil HA F1
    go_wp2
    go_ret
    exact ⟨rfl, hold⟩
  · have HQ1 : Hid (∀ x : Int, En.lgr l f t x = En.spn l (x :: s)) := Lib.hid fun x => HQ.out x (by
      rcases Nat.eq_zero_or_pos n2 with h1 | h1
      · exact .inl h1
      · right
        intro e
        injection e with e1 e2
        exact hwh ⟨h1, e1, e2⟩)
    have HRw : Hid (∀ V W, LG w E L S A A2 cE cL cS N M l s w1.heap.size f t V → Below V.heap.size V W → ∀ m, m ≤ N → Row W W.heap.size A m (fun i => .int .i64 (l.getD i 0))) := Lib.hid fun V W hV hW m hm => by
      have h1 := (hV.on hW).row
      unfold IRow at h1
      exact Row.less h1 (by rw [← HNl.out]; exact hm)
    have hwh2 : n2 = 0 ∨ f ≠ 0 ∨ t ≠ N := by omega
    clear HQ Hnil hwh
    obtain ⟨q, hq⟩ : ∃ q, q = N / 2 := ⟨_, rfl⟩
    have hqq : q < N := by omega
    obtain ⟨b0, o0, rfl, d0⟩ := HA.out w1.heap.size f t _ F1 q hqq
    have hb0 : b0 < (w1.alloc (.cells #[.int .i64 f, .int .i64 t] 33)).heap.size := by
      obtain ⟨b', o', e, hb', _⟩ := F1.row (by rw [← HNl.out]; omega)
      injection e with e
      injection e with e1 e2
      subst e1
      exact hb'
    generalize l.getD q 0 = x0 at *
    have hd1 : (N : Int).tdiv 2 = (q : Int) := by rw [Int.tdiv_eq_ediv_of_nonneg (by omega)]; omega
    have hd2 : (N : Int) / 2 = (q : Int) := by omega
    have hqz : (q : Int) < (N : Int) := by omega
    have s0 := F1.s0
    have s1 := F1.s1
    obtain ⟨V, hV⟩ : ∃ V, V = w1.alloc (.cells #[.int .i64 f, .int .i64 t] 33) := ⟨_, rfl⟩
    have HV := Lib.hid hV
    rw [← hV] at F1 d0 hb0 hold s0 s1
    clear hV HA
    have HWy := Lib.hid hwh2
    clear hwh2 hq
    obtain ⟨m, hm⟩ : ∃ m, m = min N 2 := ⟨_, rfl⟩
    have hmn : min (N : Int) 2 = (m : Int) := by omega
    have hmN : m ≤ N := by omega
    have hm2 : m ≤ 2 := by omega
    have hmc : (m : Int) ≤ (c : Int) := by omega
    have hw1 : IntKind.i64.wrap (q : Int) = (q : Int) := w64 _ (by omega) (by omega)
    clear hm
    rcases (show n2 = 0 ∨ (0 < n2 ∧ f ≠ 0) ∨ (0 < n2 ∧ f = 0 ∧ t ≠ N) from by have := HWy.out; omega) with hw | hw | hw
    · have z1 : ¬ ((0 : Int) < (n2 : Int)) := by omega
      have HH := Lib.hid hw
      clear hw
      go_upto_region 4 with fail
      rw [← HV.out]
      clear z1 HH
      have q1 : 4 + m ≤ maxLen := by unfold maxLen; omega
      have hBa : Below V.heap.size V V.drew := (Below.refl _ _).drew
      have hBb : Below V.heap.size V (V.drew.alloc (.cells #[.int .i64 (-1), .int .i64 0, .int .i64 1024, .int .i64 x0] 3)) := hBa.alloc (Nat.le_refl _) _
      have Fb := F1.on hBb
      have hlit : (V.drew.alloc (.cells #[.int .i64 (-1), .int .i64 0, .int .i64 1024, .int .i64 x0] 3)).ownsRow V.heap.size 3 1 (.slice (some ⟨V.heap.size, 0, none⟩) 4 4) 4 [.int .i64 (-1), .int .i64 0, .int .i64 1024, .int .i64 x0] := World.ownsRow_lit V.drew #[.int .i64 (-1), .int .i64 0, .int .i64 1024, .int .i64 x0] 4 (Nat.le_refl _) (by unfold maxLen; omega) rfl
      have db : (V.drew.alloc (.cells #[.int .i64 (-1), .int .i64 0, .int .i64 1024, .int .i64 x0] 3)).cell? ⟨b0, o0 + q, none⟩ = some (.int .i64 x0) := (hBb.cell (p := ⟨b0, o0 + q, none⟩) hb0).trans d0
      have hrw := HRw.out V (V.drew.alloc (.cells #[.int .i64 (-1), .int .i64 0, .int .i64 1024, .int .i64 x0] 3)) F1 hBb m (by omega)
      have hKl : ([-1, 0, 1024, x0] ++ (List.range m).map fun i => l.getD i 0).length = 4 + m := by simp; omega
      go_region_held3 (fun w' => w'.cell? ⟨b0, o0 + q, none⟩ = some (.int .i64 x0)) (first | exact d0 | exact db | exact d8 | go_keep)
        (first
          | (refine step_app_row (o := ⟨some 35, _, _, _, _, _⟩) (V.drew.alloc (.cells #[.int .i64 (-1), .int .i64 0, .int .i64 1024, .int .i64 x0] 3)) (by rfl) (.tmp 29) (.tmp 34) 22 (by rfl) V.heap.size 3 (.int .i64 0) 8 Tryz.underlying22 infoInt4 rfl (.slice (some ⟨V.heap.size, 0, none⟩) 4 4) 4 _ (by rfl) hlit (some ⟨b0, o0, none⟩) m c (fun i => .int .i64 (l.getD i 0)) (by rfl) hrw (fun _ _ => rfl) q1 (by omega) hBb.size ?_; intro v8 w8 h8 gr8 _; have hB8 := hBb.grown gr8 hBb.size (fun g hg => (hlit.lt g hg).1); have F8 := F1.on hB8; obtain ⟨X9, c9, hv9, _⟩ := own_slice h8; subst hv9; have hKS := ks_row h8; have d8 := (hB8.cell (p := ⟨b0, o0 + q, none⟩) hb0).trans d0))
      all_goals
        have HKl := Lib.hid hKl
        generalize ([-1, 0, 1024, x0] ++ (List.range m).map fun i => l.getD i 0) = KS at *
        generalize hnk : 4 + m = nk at *
        have hnkb : nk ≤ 160 := by omega
        have HNk := Lib.hid hnk
        clear hKl hnk h8 gr8 hB8 Fb hlit db d8 hrw hBa hBb d0 q1 hd1 hd2 HRw hqq hqz hb0 hw1 hmn hmc
        go_wp2
        go_loopw [37] (fun s37 W => ∃ k : Nat, k ≤ nk ∧ s37 = .int .i64 k ∧ IRow W W.heap.size X9 KS ∧ LG w E L S (some ⟨b0, o0, none⟩) A2 cE cL cS N M l s w1.heap.size f t W) (fun s37 _ => nk - (intOf s37).toNat)
        case atStart => exact ⟨0, Nat.zero_le _, rfl, hKS, F8⟩
        case round =>
          clear F8 hKS
          obtain ⟨k, hk, rfl, hKS, F⟩ := hrel
          generalize wr = V2 at *
          by_cases hlt : k < nk
          · have hlz : (k : Int) < (nk : Int) := by omega
            have hlz2 : (k : Int) < 4 + (m : Int) := by have := HNk.out; omega
            obtain ⟨b1, o1, rfl, d1⟩ := irow_at' hKS k (by rw [HKl.out]; exact hlt)
            generalize KS.getD k 0 = x at *
            have HL1 := Lib.hid (HLn.out w1.heap.size f t x V2 hsp1 hsp2 F)
            rw [HQ1.out x] at HL1
            have HS1 := Lib.hid (fun X cx W hW hX => HSp.out w1.heap.size f t X cx x W hW hX)
            generalize En.spn l (x :: s) = sp at *
            obtain ⟨a, b⟩ := sp
            dsimp only at HL1 HS1
            have c0 := F.cb.c0
            have c1 := F.cb.c1
            have c2' := F.cb.c2
            have c3 := F.cb.c3
            have c4 := F.cb.c4
            have s0 := F.s0
            have s1 := F.s1
            go_wp2_with fail
            with_reducible refine HL1.out.mono ?_
            rintro e w5 ⟨rfl, hb5⟩
            have F5 := F.on hb5
            have hb6 := (Below.refl w5.heap.size w5).alloc (Nat.le_refl _) (.cells #[.int .i64 x] 3)
            have F6 := F5.on hb6
            have hlit : (w5.alloc (.cells #[.int .i64 x] 3)).ownsRow w5.heap.size 3 1 (.slice (some ⟨w5.heap.size, 0, none⟩) 1 1) 1 [.int .i64 x] := World.ownsRow_lit w5 #[.int .i64 x] 1 (Nat.le_refl _) (by unfold maxLen; omega) rfl
            have q1 : 1 + n2 ≤ maxLen := by unfold maxLen; omega
            clear HL1 c0 c1 c2' c3 c4 s0 s1
            go_wp2_with (at_builtin; refine wpList_app_row (w5.alloc (.cells #[.int .i64 x] 3)) rfl _ _ 22 rfl w5.heap.size 3 (.int .i64 0) 8 Tryz.underlying22 infoInt4 rfl (.slice (some ⟨w5.heap.size, 0, none⟩) 1 1) 1 _ rfl hlit A2 n2 c2 (fun i => .int .i64 (s.getD i 0)) rfl (F6.sgRow n2 Hn2.out) (fun _ _ => rfl) q1 (by omega) hb6.size ?_; intro v8 w8 h8 gr8 _; have hB8 := hb6.grown gr8 hb6.size (fun g hg => (hlit.lt g hg).1); have F8 := F5.on hB8; obtain ⟨X8, cx8, hv8, hc8, hX8⟩ := own_cons' Hn2.out h8; subst hv8)
            with_reducible refine (HS1.out _ _ _ F8 hX8).mono ?_
            rintro e w9 ⟨rfl, hb9⟩
            have hB9 := hb5.trans ((hB8.trans (hb9.mono hB8.size)).mono hb5.size)
            have hKS9 := hKS.on hB9
            have F9 := F8.on hb9
            clear HS1 F F5 F6 F8 hX8 hKS hlit h8 gr8 hB8 hB9 hb9
            go_wp2
            go_roundw
            case rel => exact ⟨k + 1, by omega, by go_num, hKS9, F9⟩
            case measure => simp [intOf]; omega
          · have hold2 := F.cb.old
            have hlz : ¬ ((k : Int) < (nk : Int)) := by omega
            have hlz2 : ¬ ((k : Int) < 4 + (m : Int)) := by have := HNk.out; omega
            clear F hKS HLn HSp HQ1
            go_wp2
            go_ret
            exact ⟨rfl, hold2⟩
    · have z1 : (0 : Int) < (n2 : Int) := by omega
      have z2 : ((f : Int) == 0) = false := by simp; omega
      have HH := Lib.hid hw
      clear hw
      go_upto_region 4 with fail
      rw [← HV.out]
      clear z1 z2 HH
      have q1 : 4 + m ≤ maxLen := by unfold maxLen; omega
      have hBa : Below V.heap.size V V.drew := (Below.refl _ _).drew
      have hBb : Below V.heap.size V (V.drew.alloc (.cells #[.int .i64 (-1), .int .i64 0, .int .i64 1024, .int .i64 x0] 3)) := hBa.alloc (Nat.le_refl _) _
      have Fb := F1.on hBb
      have hlit : (V.drew.alloc (.cells #[.int .i64 (-1), .int .i64 0, .int .i64 1024, .int .i64 x0] 3)).ownsRow V.heap.size 3 1 (.slice (some ⟨V.heap.size, 0, none⟩) 4 4) 4 [.int .i64 (-1), .int .i64 0, .int .i64 1024, .int .i64 x0] := World.ownsRow_lit V.drew #[.int .i64 (-1), .int .i64 0, .int .i64 1024, .int .i64 x0] 4 (Nat.le_refl _) (by unfold maxLen; omega) rfl
      have db : (V.drew.alloc (.cells #[.int .i64 (-1), .int .i64 0, .int .i64 1024, .int .i64 x0] 3)).cell? ⟨b0, o0 + q, none⟩ = some (.int .i64 x0) := (hBb.cell (p := ⟨b0, o0 + q, none⟩) hb0).trans d0
      have hrw := HRw.out V (V.drew.alloc (.cells #[.int .i64 (-1), .int .i64 0, .int .i64 1024, .int .i64 x0] 3)) F1 hBb m (by omega)
      have hKl : ([-1, 0, 1024, x0] ++ (List.range m).map fun i => l.getD i 0).length = 4 + m := by simp; omega
      go_region_held3 (fun w' => w'.cell? ⟨b0, o0 + q, none⟩ = some (.int .i64 x0)) (first | exact d0 | exact db | exact d8 | go_keep)
        (first
          | (refine step_app_row (o := ⟨some 35, _, _, _, _, _⟩) (V.drew.alloc (.cells #[.int .i64 (-1), .int .i64 0, .int .i64 1024, .int .i64 x0] 3)) (by rfl) (.tmp 29) (.tmp 34) 22 (by rfl) V.heap.size 3 (.int .i64 0) 8 Tryz.underlying22 infoInt4 rfl (.slice (some ⟨V.heap.size, 0, none⟩) 4 4) 4 _ (by rfl) hlit (some ⟨b0, o0, none⟩) m c (fun i => .int .i64 (l.getD i 0)) (by rfl) hrw (fun _ _ => rfl) q1 (by omega) hBb.size ?_; intro v8 w8 h8 gr8 _; have hB8 := hBb.grown gr8 hBb.size (fun g hg => (hlit.lt g hg).1); have F8 := F1.on hB8; obtain ⟨X9, c9, hv9, _⟩ := own_slice h8; subst hv9; have hKS := ks_row h8; have d8 := (hB8.cell (p := ⟨b0, o0 + q, none⟩) hb0).trans d0))
      all_goals
        have HKl := Lib.hid hKl
        generalize ([-1, 0, 1024, x0] ++ (List.range m).map fun i => l.getD i 0) = KS at *
        generalize hnk : 4 + m = nk at *
        have hnkb : nk ≤ 160 := by omega
        have HNk := Lib.hid hnk
        clear hKl hnk h8 gr8 hB8 Fb hlit db d8 hrw hBa hBb d0 q1 hd1 hd2 HRw hqq hqz hb0 hw1 hmn hmc
        go_wp2
        go_loopw [37] (fun s37 W => ∃ k : Nat, k ≤ nk ∧ s37 = .int .i64 k ∧ IRow W W.heap.size X9 KS ∧ LG w E L S (some ⟨b0, o0, none⟩) A2 cE cL cS N M l s w1.heap.size f t W) (fun s37 _ => nk - (intOf s37).toNat)
        case atStart => exact ⟨0, Nat.zero_le _, rfl, hKS, F8⟩
        case round =>
          clear F8 hKS
          obtain ⟨k, hk, rfl, hKS, F⟩ := hrel
          generalize wr = V2 at *
          by_cases hlt : k < nk
          · have hlz : (k : Int) < (nk : Int) := by omega
            have hlz2 : (k : Int) < 4 + (m : Int) := by have := HNk.out; omega
            obtain ⟨b1, o1, rfl, d1⟩ := irow_at' hKS k (by rw [HKl.out]; exact hlt)
            generalize KS.getD k 0 = x at *
            have HL1 := Lib.hid (HLn.out w1.heap.size f t x V2 hsp1 hsp2 F)
            rw [HQ1.out x] at HL1
            have HS1 := Lib.hid (fun X cx W hW hX => HSp.out w1.heap.size f t X cx x W hW hX)
            generalize En.spn l (x :: s) = sp at *
            obtain ⟨a, b⟩ := sp
            dsimp only at HL1 HS1
            have c0 := F.cb.c0
            have c1 := F.cb.c1
            have c2' := F.cb.c2
            have c3 := F.cb.c3
            have c4 := F.cb.c4
            have s0 := F.s0
            have s1 := F.s1
            go_wp2_with fail
            with_reducible refine HL1.out.mono ?_
            rintro e w5 ⟨rfl, hb5⟩
            have F5 := F.on hb5
            have hb6 := (Below.refl w5.heap.size w5).alloc (Nat.le_refl _) (.cells #[.int .i64 x] 3)
            have F6 := F5.on hb6
            have hlit : (w5.alloc (.cells #[.int .i64 x] 3)).ownsRow w5.heap.size 3 1 (.slice (some ⟨w5.heap.size, 0, none⟩) 1 1) 1 [.int .i64 x] := World.ownsRow_lit w5 #[.int .i64 x] 1 (Nat.le_refl _) (by unfold maxLen; omega) rfl
            have q1 : 1 + n2 ≤ maxLen := by unfold maxLen; omega
            clear HL1 c0 c1 c2' c3 c4 s0 s1
            go_wp2_with (at_builtin; refine wpList_app_row (w5.alloc (.cells #[.int .i64 x] 3)) rfl _ _ 22 rfl w5.heap.size 3 (.int .i64 0) 8 Tryz.underlying22 infoInt4 rfl (.slice (some ⟨w5.heap.size, 0, none⟩) 1 1) 1 _ rfl hlit A2 n2 c2 (fun i => .int .i64 (s.getD i 0)) rfl (F6.sgRow n2 Hn2.out) (fun _ _ => rfl) q1 (by omega) hb6.size ?_; intro v8 w8 h8 gr8 _; have hB8 := hb6.grown gr8 hb6.size (fun g hg => (hlit.lt g hg).1); have F8 := F5.on hB8; obtain ⟨X8, cx8, hv8, hc8, hX8⟩ := own_cons' Hn2.out h8; subst hv8)
            with_reducible refine (HS1.out _ _ _ F8 hX8).mono ?_
            rintro e w9 ⟨rfl, hb9⟩
            have hB9 := hb5.trans ((hB8.trans (hb9.mono hB8.size)).mono hb5.size)
            have hKS9 := hKS.on hB9
            have F9 := F8.on hb9
            clear HS1 F F5 F6 F8 hX8 hKS hlit h8 gr8 hB8 hB9 hb9
            go_wp2
            go_roundw
            case rel => exact ⟨k + 1, by omega, by go_num, hKS9, F9⟩
            case measure => simp [intOf]; omega
          · have hold2 := F.cb.old
            have hlz : ¬ ((k : Int) < (nk : Int)) := by omega
            have hlz2 : ¬ ((k : Int) < 4 + (m : Int)) := by have := HNk.out; omega
            clear F hKS HLn HSp HQ1
            go_wp2
            go_ret
            exact ⟨rfl, hold2⟩
    · have z1 : (0 : Int) < (n2 : Int) := by omega
      have z2 : ((t : Int) == (N : Int)) = false := by simp; omega
      clear hw
      go_upto_region 4 with fail
      rw [← HV.out]
      clear z1 z2
      have q1 : 4 + m ≤ maxLen := by unfold maxLen; omega
      have hBa : Below V.heap.size V V.drew := (Below.refl _ _).drew
      have hBb : Below V.heap.size V (V.drew.alloc (.cells #[.int .i64 (-1), .int .i64 0, .int .i64 1024, .int .i64 x0] 3)) := hBa.alloc (Nat.le_refl _) _
      have Fb := F1.on hBb
      have hlit : (V.drew.alloc (.cells #[.int .i64 (-1), .int .i64 0, .int .i64 1024, .int .i64 x0] 3)).ownsRow V.heap.size 3 1 (.slice (some ⟨V.heap.size, 0, none⟩) 4 4) 4 [.int .i64 (-1), .int .i64 0, .int .i64 1024, .int .i64 x0] := World.ownsRow_lit V.drew #[.int .i64 (-1), .int .i64 0, .int .i64 1024, .int .i64 x0] 4 (Nat.le_refl _) (by unfold maxLen; omega) rfl
      have db : (V.drew.alloc (.cells #[.int .i64 (-1), .int .i64 0, .int .i64 1024, .int .i64 x0] 3)).cell? ⟨b0, o0 + q, none⟩ = some (.int .i64 x0) := (hBb.cell (p := ⟨b0, o0 + q, none⟩) hb0).trans d0
      have hrw := HRw.out V (V.drew.alloc (.cells #[.int .i64 (-1), .int .i64 0, .int .i64 1024, .int .i64 x0] 3)) F1 hBb m (by omega)
      have hKl : ([-1, 0, 1024, x0] ++ (List.range m).map fun i => l.getD i 0).length = 4 + m := by simp; omega
      go_region_held3 (fun w' => w'.cell? ⟨b0, o0 + q, none⟩ = some (.int .i64 x0)) (first | exact d0 | exact db | exact d8 | go_keep)
        (first
          | (refine step_app_row (o := ⟨some 35, _, _, _, _, _⟩) (V.drew.alloc (.cells #[.int .i64 (-1), .int .i64 0, .int .i64 1024, .int .i64 x0] 3)) (by rfl) (.tmp 29) (.tmp 34) 22 (by rfl) V.heap.size 3 (.int .i64 0) 8 Tryz.underlying22 infoInt4 rfl (.slice (some ⟨V.heap.size, 0, none⟩) 4 4) 4 _ (by rfl) hlit (some ⟨b0, o0, none⟩) m c (fun i => .int .i64 (l.getD i 0)) (by rfl) hrw (fun _ _ => rfl) q1 (by omega) hBb.size ?_; intro v8 w8 h8 gr8 _; have hB8 := hBb.grown gr8 hBb.size (fun g hg => (hlit.lt g hg).1); have F8 := F1.on hB8; obtain ⟨X9, c9, hv9, _⟩ := own_slice h8; subst hv9; have hKS := ks_row h8; have d8 := (hB8.cell (p := ⟨b0, o0 + q, none⟩) hb0).trans d0))
      all_goals
        have HKl := Lib.hid hKl
        generalize ([-1, 0, 1024, x0] ++ (List.range m).map fun i => l.getD i 0) = KS at *
        generalize hnk : 4 + m = nk at *
        have hnkb : nk ≤ 160 := by omega
        have HNk := Lib.hid hnk
        clear hKl hnk h8 gr8 hB8 Fb hlit db d8 hrw hBa hBb d0 q1 hd1 hd2 HRw hqq hqz hb0 hw1 hmn hmc
        go_wp2
        go_loopw [37] (fun s37 W => ∃ k : Nat, k ≤ nk ∧ s37 = .int .i64 k ∧ IRow W W.heap.size X9 KS ∧ LG w E L S (some ⟨b0, o0, none⟩) A2 cE cL cS N M l s w1.heap.size f t W) (fun s37 _ => nk - (intOf s37).toNat)
        case atStart => exact ⟨0, Nat.zero_le _, rfl, hKS, F8⟩
        case round =>
          clear F8 hKS
          obtain ⟨k, hk, rfl, hKS, F⟩ := hrel
          generalize wr = V2 at *
          by_cases hlt : k < nk
          · have hlz : (k : Int) < (nk : Int) := by omega
            have hlz2 : (k : Int) < 4 + (m : Int) := by have := HNk.out; omega
            obtain ⟨b1, o1, rfl, d1⟩ := irow_at' hKS k (by rw [HKl.out]; exact hlt)
            generalize KS.getD k 0 = x at *
            have HL1 := Lib.hid (HLn.out w1.heap.size f t x V2 hsp1 hsp2 F)
            rw [HQ1.out x] at HL1
            have HS1 := Lib.hid (fun X cx W hW hX => HSp.out w1.heap.size f t X cx x W hW hX)
            generalize En.spn l (x :: s) = sp at *
            obtain ⟨a, b⟩ := sp
            dsimp only at HL1 HS1
            have c0 := F.cb.c0
            have c1 := F.cb.c1
            have c2' := F.cb.c2
            have c3 := F.cb.c3
            have c4 := F.cb.c4
            have s0 := F.s0
            have s1 := F.s1
            go_wp2_with fail
            with_reducible refine HL1.out.mono ?_
            rintro e w5 ⟨rfl, hb5⟩
            have F5 := F.on hb5
            have hb6 := (Below.refl w5.heap.size w5).alloc (Nat.le_refl _) (.cells #[.int .i64 x] 3)
            have F6 := F5.on hb6
            have hlit : (w5.alloc (.cells #[.int .i64 x] 3)).ownsRow w5.heap.size 3 1 (.slice (some ⟨w5.heap.size, 0, none⟩) 1 1) 1 [.int .i64 x] := World.ownsRow_lit w5 #[.int .i64 x] 1 (Nat.le_refl _) (by unfold maxLen; omega) rfl
            have q1 : 1 + n2 ≤ maxLen := by unfold maxLen; omega
            clear HL1 c0 c1 c2' c3 c4 s0 s1
            go_wp2_with (at_builtin; refine wpList_app_row (w5.alloc (.cells #[.int .i64 x] 3)) rfl _ _ 22 rfl w5.heap.size 3 (.int .i64 0) 8 Tryz.underlying22 infoInt4 rfl (.slice (some ⟨w5.heap.size, 0, none⟩) 1 1) 1 _ rfl hlit A2 n2 c2 (fun i => .int .i64 (s.getD i 0)) rfl (F6.sgRow n2 Hn2.out) (fun _ _ => rfl) q1 (by omega) hb6.size ?_; intro v8 w8 h8 gr8 _; have hB8 := hb6.grown gr8 hb6.size (fun g hg => (hlit.lt g hg).1); have F8 := F5.on hB8; obtain ⟨X8, cx8, hv8, hc8, hX8⟩ := own_cons' Hn2.out h8; subst hv8)
            with_reducible refine (HS1.out _ _ _ F8 hX8).mono ?_
            rintro e w9 ⟨rfl, hb9⟩
            have hB9 := hb5.trans ((hB8.trans (hb9.mono hB8.size)).mono hb5.size)
            have hKS9 := hKS.on hB9
            have F9 := F8.on hb9
            clear HS1 F F5 F6 F8 hX8 hKS hlit h8 gr8 hB8 hB9 hb9
            go_wp2
            go_roundw
            case rel => exact ⟨k + 1, by omega, by go_num, hKS9, F9⟩
            case measure => simp [intOf]; omega
          · have hold2 := F.cb.old
            have hlz : ¬ ((k : Int) < (nk : Int)) := by omega
            have hlz2 : ¬ ((k : Int) < 4 + (m : Int)) := by have := HNk.out; omega
            clear F hKS HLn HSp HQ1
            go_wp2
            go_ret
            exact ⟨rfl, hold2⟩

end Go.Proofs.YtelapijdpcoekaaGreat
