/- The walk of seenBehindLast of package guess. -/
import Derived.Test.YtoejenejleocdabGreatDoorJy
namespace Go.Proofs.YtoejenejleocdabGreatDoor
open Go.RowKit
attribute [local irreducible] Bt.pop Bt.popF

theorem infoBehind : (Tryz.prog.info? 107).map (fun i => (i.zero, i.size, i.bytes)) = some (some (.agg #[.slice none 0 0, .int .i64 0, .int .i64 0]), 3, 40) := by kernel_rfl

theorem three_cells {W : World} {R : Nat} {v : Value} {a u : Nat} (h : W.rowIs R 107 3 (bhF v a u)) : W.cell? ⟨R, 0, none⟩ = some v ∧ W.cell? ⟨R, 1, none⟩ = some (.int .i64 a) ∧ W.cell? ⟨R, 2, none⟩ = some (.int .i64 u) ∧ W.frozen? ⟨R, 0, none⟩ = false ∧ W.frozen? ⟨R, 1, none⟩ = false ∧ W.frozen? ⟨R, 2, none⟩ = false :=
  ⟨h.cell (i := 0) (by omega), h.cell (i := 1) (by omega), h.cell (i := 2) (by omega), h.frozen 0, h.frozen 1, h.frozen 2⟩
theorem wayA {V w7 : World} {g n : Nat} {f : Nat → Value} {v : Value} {a u : Nat} (hg : V.heap.size ≤ g) (g2 : w7.rowIs g 3 n f) (g3 : Below V.heap.size V w7) :
    (w7.alloc (.cells #[v, .int .i64 a, .int .i64 u] 107)).rowIs w7.heap.size 107 3 (bhF v a u) ∧ (w7.alloc (.cells #[v, .int .i64 a, .int .i64 u] 107)).rowIs g 3 n f ∧ V.heap.size ≤ g ∧ Below V.heap.size V (w7.alloc (.cells #[v, .int .i64 a, .int .i64 u] 107)) :=
  ⟨World.rowIs_alloc w7 #[v, .int .i64 a, .int .i64 u] 107 (bhF v a u) (fun i hi => by
    match i, hi with
    | 0, _ => rfl
    | 1, _ => rfl
    | 2, _ => rfl), g2.alloc _, hg, g3.alloc g3.size _⟩
theorem wayB {V w7 : World} {g n : Nat} {f F : Nat → Value} {v : Value} {a u : Nat} (hR : w7.rowIs V.heap.size 107 3 F) (hg : V.heap.size + 1 ≤ g) (g2 : w7.rowIs g 3 n f) (g3 : Below V.heap.size V w7) :
    (((w7.setCell ⟨V.heap.size, 0, none⟩ v).setCell ⟨V.heap.size, 1, none⟩ (.int .i64 a)).setCell ⟨V.heap.size, 2, none⟩ (.int .i64 u)).rowIs V.heap.size 107 3 (bhF v a u) ∧ (((w7.setCell ⟨V.heap.size, 0, none⟩ v).setCell ⟨V.heap.size, 1, none⟩ (.int .i64 a)).setCell ⟨V.heap.size, 2, none⟩ (.int .i64 u)).rowIs g 3 n f ∧ V.heap.size ≤ g ∧
      Below V.heap.size V (((w7.setCell ⟨V.heap.size, 0, none⟩ v).setCell ⟨V.heap.size, 1, none⟩ (.int .i64 a)).setCell ⟨V.heap.size, 2, none⟩ (.int .i64 u)) :=
  ⟨res_set hR v a u, ((g2.setOther (a := ⟨V.heap.size, 0, none⟩) (by show g ≠ V.heap.size; omega) _).setOther (a := ⟨V.heap.size, 1, none⟩) (by show g ≠ V.heap.size; omega) _).setOther (a := ⟨V.heap.size, 2, none⟩) (by show g ≠ V.heap.size; omega) _, by omega,
    ((g3.setCell (p := ⟨V.heap.size, 0, none⟩) (Nat.le_refl _) _).setCell (p := ⟨V.heap.size, 1, none⟩) (Nat.le_refl _) _).setCell (p := ⟨V.heap.size, 2, none⟩) (Nat.le_refl _) _⟩
section
variable {w0 : World} {B : Nat} {E L S : Option Addr} {cE cL cS N M : Nat} {l : List Int} {W : World}
theorem CB.al (h : CB w0 B E L S cE cL cS N M l W) (o : Obj) : (W.alloc o).cell? ⟨B, 0, none⟩ = some (.slice E N cE) ∧ (W.alloc o).cell? ⟨B, 1, none⟩ = some (.int .i64 N) ∧ (W.alloc o).cell? ⟨B, 2, none⟩ = some (.int .i64 10) ∧ (W.alloc o).cell? ⟨B, 3, none⟩ = some (.slice L 10 cL) ∧ (W.alloc o).cell? ⟨B, 4, none⟩ = some (.slice S M cS) :=
  let J := h.on ((Below.refl _ W).alloc (Nat.le_refl _) o)
  ⟨J.c0, J.c1, J.c2, J.c3, J.c4⟩
theorem CB.st (h : CB w0 B E L S cE cL cS N M l W) (X : Nat) (hX : B ≠ X) (v0 v1 v2 : Value) (i : Nat := 0) (j : Nat := 1) (k : Nat := 2) : (((W.setCell ⟨X, i, none⟩ v0).setCell ⟨X, j, none⟩ v1).setCell ⟨X, k, none⟩ v2).cell? ⟨B, 0, none⟩ = some (.slice E N cE) ∧ (((W.setCell ⟨X, i, none⟩ v0).setCell ⟨X, j, none⟩ v1).setCell ⟨X, k, none⟩ v2).cell? ⟨B, 1, none⟩ = some (.int .i64 N) ∧ (((W.setCell ⟨X, i, none⟩ v0).setCell ⟨X, j, none⟩ v1).setCell ⟨X, k, none⟩ v2).cell? ⟨B, 2, none⟩ = some (.int .i64 10) ∧ (((W.setCell ⟨X, i, none⟩ v0).setCell ⟨X, j, none⟩ v1).setCell ⟨X, k, none⟩ v2).cell? ⟨B, 3, none⟩ = some (.slice L 10 cL) ∧ (((W.setCell ⟨X, i, none⟩ v0).setCell ⟨X, j, none⟩ v1).setCell ⟨X, k, none⟩ v2).cell? ⟨B, 4, none⟩ = some (.slice S M cS) := by
  have far : ∀ o, (((W.setCell ⟨X, i, none⟩ v0).setCell ⟨X, j, none⟩ v1).setCell ⟨X, k, none⟩ v2).cell? ⟨B, o, none⟩ = W.cell? ⟨B, o, none⟩ := fun o => by
    rw [World.cell?_setCell_far _ ⟨X, k, none⟩ ⟨B, o, none⟩ _ (Ne.symm hX), World.cell?_setCell_far _ ⟨X, j, none⟩ ⟨B, o, none⟩ _ (Ne.symm hX), World.cell?_setCell_far _ ⟨X, i, none⟩ ⟨B, o, none⟩ _ (Ne.symm hX)]
  exact ⟨(far 0).trans h.c0, (far 1).trans h.c1, (far 2).trans h.c2, (far 3).trans h.c3, (far 4).trans h.c4⟩
end

set_option maxRecDepth 100000 in
set_option maxHeartbeats 4000000 in
theorem seenBehindLast_any (E L S A : Option Addr) (cE cL cS N M c : Nat) (l s : List Int) (w : World) (h : Cmb w E L S l) (hN : N = l.length) (hM : M = En.most l + 2) (hE : N ≤ cE) (hL : 10 ≤ cL) (hr : IRow w w.heap.size A s) (hcap : s.length ≤ c) (hs : s.length ≤ 17592186044416) :
    Calls Tryz.prog 50 #[.agg #[.slice E N cE, .int .i64 N, .int .i64 10, .slice L 10 cL, .slice S M cS], .slice A s.length c] w (SeenL w l (Pt.last2 s)) := by
  obtain ⟨w0, hw0⟩ : ∃ w0, w0 = w.alloc (.cells #[.slice E N cE, .int .i64 N, .int .i64 10, .slice L 10 cL, .slice S M cS] 33) := ⟨_, rfl⟩
  have hb : Below w.heap.size w w0 := by rw [hw0]; exact (Below.refl _ w).alloc (Nat.le_refl _) _
  have J : CB w w.heap.size E L S cE cL cS N M l w0 := by rw [hw0]; exact CB.start h hN hM hE hL (Below.refl _ _) 33
  have HJ : Hid (∀ W, Below w0.heap.size w0 W → CB w w.heap.size E L S cE cL cS N M l W) := Lib.hid fun W hW => J.on hW
  have HSb : Hid (∀ (A' : Option Addr) (c' k : Nat) W, k ≤ (Pt.last2 s).length → IRow w0 w0.heap.size A' (Pt.last2 s) → (Pt.last2 s).length ≤ c' → Below w0.heap.size w0 W → Calls Tryz.prog 82 #[.agg #[.slice E N cE, .int .i64 N, .int .i64 10, .slice L 10 cL, .slice S M cS], .slice (subA A' c' k) ((Pt.last2 s).length - k) (c' - k)] W (SeenIs W l ((Pt.last2 s).drop k))) := Lib.hid fun A' c' k W hk hA hc hW => by
    have h1 := seenBehind_any E L S (subA A' c' k) cE cL cS N M (c' - k) l ((Pt.last2 s).drop k) W (J.on hW).cmb hN hM hE hL (irow_sub (hA.on hW) c' k hc) (by rw [List.length_drop, Pt.last2_len]; omega)
    rw [List.length_drop] at h1
    exact h1
  have HRow : Hid (IRow w0 w0.heap.size (subA A c (s.length - 2)) (Pt.last2 s)) := Lib.hid (irow_sub (hr.on hb) c (s.length - 2) hcap)
  have hl2 : (Pt.last2 s).length = min s.length 2 := Pt.last2_len s
  have HL2 : Hid ((Pt.last2 s).length = s.length - (s.length - 2)) := Lib.hid (by rw [hl2]; omega)
  have hle2 : (Pt.last2 s).length ≤ 2 := by rw [hl2]; omega
  have HSL := Lib.hid (fun W => run_sub A s.length c (s.length - 2) (by omega) hcap W)
  have HW0 := Lib.hid hw0
  have Hb := Lib.hid hb
  have hmax : max (0 : Int) ((s.length : Int) - 2) = ((s.length - 2 : Nat) : Int) := by omega
  have HMax := Lib.hid hmax
  clear h hN hM hr J hb hw0 hl2 hmax
  generalize Pt.last2 s = t at *
  generalize s.length = n at *
  go_enter Tryz.func50, Tryz.ntmps50
  go_upto_region 2 with fail
  rw [← HW0.out]
  have e1 : (max (0 : Int) ((n : Int) - 2)).toNat = n - 2 := by omega
  rw [e1]
  rw [show (if c = n - 2 then A else Option.map (fun x => x.add (n - 2)) A) = subA A c (n - 2) from rfl, ← HL2.out]
  have hc1 : t.length ≤ c - (n - 2) := by have := HL2.out; omega
  clear HL2 e1 HMax HSL
  generalize subA A c (n - 2) = A1 at *
  generalize c - (n - 2) = c1 at *
  generalize hn1 : t.length = n1 at *
  have HN1 := Lib.hid hn1
  clear hn1
  go_wp2
  go_loopw [5, 6] (fun s5 s6 W => ∃ (k f : Nat) (xs : List Value) (A9 : Option Addr) (c9 : Nat), f + k = n1 + 1 ∧ s5 = .slice A9 k c9 ∧ s6 = .int .i64 ((f : Int) - 1) ∧ SeO w0.heap.size l t k (.slice A9 k c9) xs W ∧ Below w0.heap.size w0 W) (fun _ s6 _ => (intOf s6 + 1).toNat)
  case atStart => exact ⟨0, n1 + 1, [], none, 0, rfl, rfl, by congr 1; omega, SeO.nil _ _ _ _, Below.refl _ _⟩
  case round =>
    obtain ⟨k, f, xs, A9, c9, hfk, rfl, rfl, J, hbl⟩ := hrel
    generalize wr = V at *
    by_cases h0 : f = 0
    · subst h0
      have hk : k = n1 + 1 := by omega
      have hlt : ¬ ((0 : Int) ≤ ((0 : Nat) : Int) - 1) := by omega
      obtain ⟨_, HS⟩ := J.seen (by rw [HN1.out]; omega) (.inl (by rw [HN1.out]; exact hk))
      have HS' := Lib.hid HS
      clear HS J HSb HJ hk
      go_wp2
      go_ret
      exact ⟨A9, k, c9, rfl, HS'.out, Hb.out.trans (hbl.mono Hb.out.size)⟩
    · obtain ⟨q, rfl⟩ : ∃ q, f = q + 1 := ⟨f - 1, by omega⟩
      rw [show (((q + 1 : Nat) : Int) - 1) = (q : Int) from by omega]
      have hqn : q ≤ n1 := by omega
      have HQK : Hid (q = n1 - k) := Lib.hid (by omega)
      have hqk1 : q + k ≤ n1 := by omega
      have hqk2 : n1 ≤ q + k := by omega
      clear hfk
      have HSf : Hid (∀ W, Below w0.heap.size w0 W → Calls Tryz.prog 82 #[.agg #[.slice E N cE, .int .i64 N, .int .i64 10, .slice L 10 cL, .slice S M cS], .slice (if c1 = q then A1 else Option.map (fun x => x.add q) A1) (n1 - q) (c1 - q)] W (SeenIs W l (t.drop q))) := Lib.hid fun W hW => HSb.out A1 c1 q W hqn HRow.out hc1 hW
      have hBa : Below V.heap.size V V.drew := (Below.refl _ _).drew
      have hBb : Below V.heap.size V (V.alloc (.cells #[.slice none 0 0, .int .i64 0, .int .i64 0] 107)).drew := ((Below.refl _ _).alloc (Nat.le_refl _) _).drew
      have hCa := HJ.out _ (hbl.trans (hBa.mono hbl.size))
      have hCb := HJ.out _ (hbl.trans (hBb.mono hbl.size))
      go_upto_region 6 with fail
      go_cut [7] from 16 to 31 (fun s7 W => ∃ B g, s7 = .pointer (some ⟨B, 0, none⟩) ∧ W.rowIs B 107 3 (bhF (.slice (some ⟨g, 0, none⟩) (En.most l + 1) (En.most l + 1)) (Pt.all l (t.drop q)) (Pt.unl l (t.drop q))) ∧ W.rowIs g 3 (En.most l + 1) (fun x => .int .i64 (Pt.wz l (t.drop q) x : Nat)) ∧ V.heap.size ≤ g ∧ Below V.heap.size V W)
      case first =>
        have a0 := hCa.c0
        have a1 := hCa.c1
        have a2 := hCa.c2
        have a3 := hCa.c3
        have a4 := hCa.c4
        have b0 := hCb.c0
        have b1 := hCb.c1
        have b2 := hCb.c2
        have b3 := hCb.c3
        have b4 := hCb.c4
        have hz1 : (q : Int) ≤ (n1 : Int) := by omega
        have hVw : w.heap.size < V.heap.size := Nat.lt_of_lt_of_le (by rw [HW0.out]; simp) hbl.size
        have hRb : (V.alloc (.cells #[.slice none 0 0, .int .i64 0, .int .i64 0] 107)).drew.rowIs V.heap.size 107 3 (bhF (.slice none 0 0) 0 0) := (World.rowIs_alloc V #[.slice none 0 0, .int .i64 0, .int .i64 0] 107 (bhF (.slice none 0 0) 0 0) (fun i hi => by
          match i, hi with
          | 0, _ => rfl
          | 1, _ => rfl
          | 2, _ => rfl)).drew
        have hBa' := hbl.trans (hBa.mono hbl.size)
        have hBb' := hbl.trans (hBb.mono hbl.size)
        by_cases hcq : c1 = q
        · subst hcq
          have HSg : Hid (∀ W, Below w0.heap.size w0 W → Calls Tryz.prog 82 #[.agg #[.slice E N cE, .int .i64 N, .int .i64 10, .slice L 10 cL, .slice S M cS], .slice A1 0 0] W (SeenIs W l (t.drop c1))) := Lib.hid fun W hW => by
            have h1 := HSf.out W hW
            rw [if_pos rfl, Nat.sub_self, show n1 - c1 = 0 from by omega] at h1
            exact h1
          clear HSf
          go_wp2_with fail
          go_region_held3 (fun w' => w'.cell? ⟨w.heap.size, 0, none⟩ = some (.slice E N cE) ∧ w'.cell? ⟨w.heap.size, 1, none⟩ = some (.int .i64 N) ∧ w'.cell? ⟨w.heap.size, 2, none⟩ = some (.int .i64 10) ∧ w'.cell? ⟨w.heap.size, 3, none⟩ = some (.slice L 10 cL) ∧ w'.cell? ⟨w.heap.size, 4, none⟩ = some (.slice S M cS))
            (first | exact ⟨a0, a1, a2, a3, a4⟩ | exact ⟨b0, b1, b2, b3, b4⟩ | exact ⟨C7.c0, C7.c1, C7.c2, C7.c3, C7.c4⟩ | exact C7.al _ | exact C7.st V.heap.size (Nat.ne_of_lt hVw) _ _ _ | go_keep)
            (first
              | (go_at_call 82; (with_reducible refine (HSg.out _ hBa').mono ?_); rintro e w7 ⟨g, rfl, g1, g2, g3⟩; have C7 := HJ.out w7 (hBa'.trans (g3.mono hBa'.size)))
              | (go_at_call 82; (with_reducible refine (HSg.out _ hBb').mono ?_); rintro e w7 ⟨g, rfl, g1, g2, g3⟩; have C7 := HJ.out w7 (hBb'.trans (g3.mono hBb'.size)); obtain ⟨y0, y1, y2, z0, z1, z2⟩ := three_cells (hRb.of_block (g3.block _ (by simp)))))
          all_goals
            go_wp2_with fail
            go_meet
            first
              | exact ⟨_, _, rfl, wayA g1 g2 (hBa.trans (g3.mono hBa.size))⟩
              | exact ⟨_, _, rfl, wayB (hRb.of_block (g3.block _ (by simp))) (by simpa using g1) g2 (hBb.trans (g3.mono hBb.size))⟩
        · have HSg : Hid (∀ W, Below w0.heap.size w0 W → Calls Tryz.prog 82 #[.agg #[.slice E N cE, .int .i64 N, .int .i64 10, .slice L 10 cL, .slice S M cS], .slice (Option.map (fun x => x.add q) A1) (n1 - q) (c1 - q)] W (SeenIs W l (t.drop q))) := Lib.hid fun W hW => by
            have h1 := HSf.out W hW
            rw [if_neg hcq] at h1
            exact h1
          clear HSf
          go_wp2_with fail
          go_region_held3 (fun w' => w'.cell? ⟨w.heap.size, 0, none⟩ = some (.slice E N cE) ∧ w'.cell? ⟨w.heap.size, 1, none⟩ = some (.int .i64 N) ∧ w'.cell? ⟨w.heap.size, 2, none⟩ = some (.int .i64 10) ∧ w'.cell? ⟨w.heap.size, 3, none⟩ = some (.slice L 10 cL) ∧ w'.cell? ⟨w.heap.size, 4, none⟩ = some (.slice S M cS))
            (first | exact ⟨a0, a1, a2, a3, a4⟩ | exact ⟨b0, b1, b2, b3, b4⟩ | exact ⟨C7.c0, C7.c1, C7.c2, C7.c3, C7.c4⟩ | exact C7.al _ | exact C7.st V.heap.size (Nat.ne_of_lt hVw) _ _ _ | go_keep)
            (first
              | (go_at_call 82; (with_reducible refine (HSg.out _ hBa').mono ?_); rintro e w7 ⟨g, rfl, g1, g2, g3⟩; have C7 := HJ.out w7 (hBa'.trans (g3.mono hBa'.size)))
              | (go_at_call 82; (with_reducible refine (HSg.out _ hBb').mono ?_); rintro e w7 ⟨g, rfl, g1, g2, g3⟩; have C7 := HJ.out w7 (hBb'.trans (g3.mono hBb'.size)); obtain ⟨y0, y1, y2, z0, z1, z2⟩ := three_cells (hRb.of_block (g3.block _ (by simp)))))
          all_goals
            go_wp2_with fail
            go_meet
            first
              | exact ⟨_, _, rfl, wayA g1 g2 (hBa.trans (g3.mono hBa.size))⟩
              | exact ⟨_, _, rfl, wayB (hRb.of_block (g3.block _ (by simp))) (by simpa using g1) g2 (hBb.trans (g3.mono hBb.size))⟩
      case rest =>
      obtain ⟨B, g, rfl, hB, hG, hg, hbW⟩ := hcut
      have J2 := J.on hbW
      have hbl2 := hbl.trans (hbW.mono hbl.size)
      obtain ⟨y0, y1, y2, z0, z1, z2⟩ := three_cells hB
      have hgo : some g ≠ (Value.slice A9 k c9).ownBlock := fun he => by
        have := J.own.lt g he.symm
        omega
      have HU : Hid (t.drop q = t.drop (t.length - k)) := Lib.hid (by rw [HN1.out, ← HQK.out])
      clear J hbl hBa hBb hCa hCb HSf hg hbW z0 z1 z2 HSb
      by_cases hu : Pt.unl l (t.drop q) = 0
      · rw [hu] at y2
        obtain ⟨_, HS⟩ := J2.seen (by rw [HN1.out]; omega) (.inr (by rw [← HU.out]; exact hu))
        have HS' := Lib.hid HS
        clear HS J2 HJ hu hB hG
        go_wp2
        go_ret
        exact ⟨A9, k, c9, rfl, HS'.out, Hb.out.trans (hbl2.mono Hb.out.size)⟩
      · have hu1 : 0 < Pt.unl l (t.drop q) := by omega
        rw [HU.out] at hG hu1 y1 y2 hu
        have hz1 : ((Pt.unl l (t.drop (t.length - k)) : Int) == 0) = false := by simp; omega
        have HApp : Hid (∀ (W : World), Below wc.heap.size wc W → ∀ (v' : Value) (W' : World), W.grownBy W' (Value.slice A9 k c9).ownBlock → (v'.ownBlock = (Value.slice A9 k c9).ownBlock ∨ v'.ownBlock = some W.heap.size) → W'.ownsRow w0.heap.size 107 3 v' (k + 1) (xs ++ [.slice (some ⟨g, 0, none⟩) (En.most l + 1) (En.most l + 1), .int .i64 (Pt.all l (t.drop (t.length - k)) : Nat), .int .i64 (Pt.unl l (t.drop (t.length - k)) : Nat)]) → SeO w0.heap.size l t (k + 1) v' (xs ++ [.slice (some ⟨g, 0, none⟩) (En.most l + 1) (En.most l + 1), .int .i64 (Pt.all l (t.drop (t.length - k)) : Nat), .int .i64 (Pt.unl l (t.drop (t.length - k)) : Nat)]) W' ∧ Below w0.heap.size w0 W') := Lib.hid fun W hW v' W' hg hv hn =>
          ⟨(J2.on hW).app g (hG.of_block (hW.block _ hG.lt)) hgo hu1 hg hv hn, (hbl2.trans (hW.mono hbl2.size)).grown hg (Nat.le_trans hbl2.size hW.size) (fun x hx => (J2.own.lt x hx).1)⟩
        have hO := (J2.on ((Below.refl _ wc).alloc (Nat.le_refl _) (.cells #[.slice (some ⟨g, 0, none⟩) (En.most l + 1) (En.most l + 1), .int .i64 (Pt.all l (t.drop (t.length - k)) : Nat), .int .i64 (Pt.unl l (t.drop (t.length - k)) : Nat)] 107))).own
        have hsz := hbl2.size
        clear J2 hG hu1 hu hgo HU HJ hB
        generalize Pt.unl l (t.drop (t.length - k)) = u at *
        generalize Pt.all l (t.drop (t.length - k)) = a at *
        generalize En.most l + 1 = m at *
        obtain ⟨bi, hbi, hbz⟩ := Option.map_eq_some_iff.1 infoBehind
        simp only [Prod.mk.injEq] at hbz
        obtain ⟨zz1, zz2, zz3⟩ := hbz
        have hnews : ∀ j x, ([.slice (some ⟨g, 0, none⟩) m m, .int .i64 a, .int .i64 u] : List Value)[j]? = some x → (wc.alloc (.cells #[.slice (some ⟨g, 0, none⟩) m m, .int .i64 a, .int .i64 u] 107)).cell? ((⟨wc.heap.size, 0, none⟩ : Addr).add j) = some x :=
          World.news_of_block (t := 107) (fr := (0, 0)) (heap_alloc_new wc _)
        go_wp2_with (at_builtin; refine wpList_append_lies _ rfl _ _ 74 rfl w0.heap.size 107 bi _ 3 40 Tryz.underlying74 hbi zz1 zz2 zz3 rfl (by omega) (.slice A9 k c9) k xs rfl hO ⟨wc.heap.size, 0, none⟩ 1 1 _ rfl rfl hnews (by intro u hu; simp at hu; rcases hu with rfl | rfl | rfl <;> rfl) (by omega) (by unfold maxLen; omega) (by omega) (by simp; omega) _ rfl ?_; intro g5 cap5 w5 o5 gr5 at5 lt5; have L5 := HApp.out _ ((Below.refl _ wc).alloc (Nat.le_refl _) _) (.slice (some ⟨g5, 0, none⟩) (k + 1) cap5) _ gr5 (at5.elim (fun h => .inl h.symm) (fun h => .inr (congrArg some h))) o5)
        clear hO o5 gr5 at5 lt5 hnews HApp
        go_roundw
        case rel => exact ⟨k + 1, q, _, _, _, by omega, rfl, by go_num, L5.1, L5.2⟩
        case measure => simp [intOf]

end Go.Proofs.YtoejenejleocdabGreatDoor
