/- The document's own answer: how likely a sign is behind others (the reference's likely). -/
import Derived.Test.YtoejenejleocdabGreatDoorHa
import Derived.Test.YtoejenejleocdabGreatDoorJz
import Derived.Test.YtoejenejleocdabGreatDoorJl
import Derived.Test.YtoejenejleocdabGreatDoorAr
namespace Go.Proofs.YtoejenejleocdabGreatDoor
open Go.RowKit
attribute [local irreducible] Bt.pop Bt.popF

namespace Pt
/-- how likely it was by one sign fewer -/
def prv (l : List Int) (x : Nat) : List Int → Nat × Nat
  | [] => (1, En.most l)
  | _ :: t => lv l x t
theorem lv_prv (l : List Int) (x : Nat) (s : List Int) : lv l x s = stpS l s x (prv l x s) := by cases s <;> rfl
theorem prv_pos {l : List Int} (h : En.Sg l) (x : Nat) (hm : 0 < En.most l) (s : List Int) : 0 < (prv l x s).1 ∧ 0 < (prv l x s).2 := by
  cases s with
  | nil => exact ⟨by simp [prv], hm⟩
  | cons y t => exact lv_pos h x hm t
theorem prv_small {l : List Int} (h : En.Sg l) (hl : l.length ≤ 150) (hm : En.most l < 1024) (x : Nat) (s : List Int) (hs : s.length ≤ 2) : (prv l x s).2 ≤ 221184000000 := by
  cases s with
  | nil => show En.most l ≤ _; omega
  | cons y t => exact lv_small h hl hm x t (by rw [List.length_cons] at hs; omega)
theorem prv_le {l : List Int} (h : En.Sg l) (x : Nat) (h1 : 1 ≤ x) (h2 : x ≤ En.most l) (s : List Int) : (prv l x s).1 ≤ (prv l x s).2 := by
  cases s with
  | nil => show 1 ≤ En.most l; omega
  | cons y t => exact lv_le h t x h1 h2
theorem step_ok2 (o ao t at' : Nat) (p : Nat × Nat) (ho : o ≤ 600) (hao : ao ≤ 600) (ht : t ≤ 600) (ha : at' ≤ 600) (h1 : p.1 ≤ 221184000000) (h2 : p.2 ≤ 221184000000) :
    t * p.1 < 9223372036854775808 ∧ at' * p.2 < 9223372036854775808 ∧ o * (timP (t, at') p).2 + (timP (t, at') p).1 * ao < 9223372036854775808 ∧ ao * (timP (t, at') p).2 < 9223372036854775808 := by
  have k1 : t * p.1 ≤ 600 * 221184000000 := Nat.mul_le_mul ht h1
  have k2 : at' * p.2 ≤ 600 * 221184000000 := Nat.mul_le_mul ha h2
  have r := red_le (t * p.1) (at' * p.2)
  have e : timP (t, at') p = red (t * p.1) (at' * p.2) := rfl
  rw [e]
  generalize red (t * p.1) (at' * p.2) = q at *
  have k3 : o * q.2 ≤ 600 * 132710400000000 := Nat.mul_le_mul ho (by omega)
  have k4 : q.1 * ao ≤ 132710400000000 * 600 := Nat.mul_le_mul (by omega) hao
  have k5 : ao * q.2 ≤ 600 * 132710400000000 := Nat.mul_le_mul hao (by omega)
  omega
end Pt

/-- what the reference answers behind s -/
def LkOk (l : List Int) (x : Nat) (s : List Int) : Prop := ∀ (A A2 : Option Addr) (c c2 N n : Nat) (w : World), N = l.length → n = s.length → IRow w w.heap.size A l → IRow w w.heap.size A2 s → n ≤ c2 →
  Calls Tryz.prog 51 #[.slice A N c, .slice A2 n c2, .int .i64 x, .int .i64 (En.most l : Nat), .bool (decide (n = 2))] w fun e w' => e = .returned (.agg #[.int .i64 ((Pt.red (Pt.lv l x s).1 (Pt.lv l x s).2).1 : Nat), .int .i64 ((Pt.red (Pt.lv l x s).1 (Pt.lv l x s).2).2 : Nat)]) ∧ Below w.heap.size w w'

/-- a row of a list, and one number behind it -/
theorem own_plus {W : World} {base n : Nat} {v : Value} {s : List Int} {x : Int} (hn : s.length = n) (h : W.ownsRow base 3 1 v (n + 1) ((List.range n).map (fun i => Value.int .i64 (s.getD i 0)) ++ [.int .i64 x])) : ∃ X cx, v = .slice X (n + 1) cx ∧ n + 1 ≤ cx ∧ IRow W W.heap.size X (s ++ [x]) := by
  subst hn
  rw [← map_range_getD s (0 : Int) (Value.int .i64), show [Value.int .i64 x] = [x].map (Value.int .i64) from rfl, ← List.map_append] at h
  obtain ⟨X, cx, rfl, hc⟩ := own_slice h
  obtain ⟨h2, h3⟩ := own_row (0 : Int) h
  refine ⟨X, cx, rfl, hc, ?_⟩
  unfold IRow
  rw [← h2]
  exact h3

set_option maxRecDepth 100000 in
set_option maxHeartbeats 4000000 in
theorem likelyR_step (l : List Int) (x : Nat) (s : List Int) (hg : En.Sg l) (hl : l.length ≤ 150) (hfit : En.most l < 1024) (h1 : 1 ≤ x) (h2 : x ≤ En.most l) (hs : s.length ≤ 2) (IH : ∀ y t, s = y :: t → LkOk l x t) : LkOk l x s := by
  intro A A2 c c2 N n w hN hn hr hr2 hc2
  have HBh : Hid (∀ W, Below w.heap.size w W → Calls Tryz.prog 83 #[.slice A N c, .slice A2 n c2] W (Ints W (up (En.bhd l s)))) := Lib.hid fun W hW => by rw [hN, hn]; exact behindsOf_any A A2 c c2 l s W (hr.on hW) (hr2.on hW) hg hl (by omega)
  have HPl : Hid (∀ (X : Option Addr) (cx k : Nat) W, Below w.heap.size w W → IRow W W.heap.size X (s ++ [((k : Nat) : Int)]) → Calls Tryz.prog 37 #[.slice A N c, .slice X (n + 1) cx] W fun e w' => ∃ Y cy, e = .returned (.slice Y (En.plc l (s ++ [((k : Nat) : Int)])).length cy) ∧ Below W.heap.size W w') := Lib.hid fun X cx k W hW hX => by
    have := placesOf_any A X c cx l (s ++ [((k : Nat) : Int)]) W (hr.on hW) hX hl (by simp; omega)
    rw [show (s ++ [((k : Nat) : Int)]).length = n + 1 from by simp; omega, ← hN] at this
    refine this.mono ?_
    rintro e w' ⟨Y, cy, h3, _, h4⟩
    rw [up_len] at h3
    exact ⟨Y, cy, h3, h4⟩
  have HBf : Hid (∀ (X : Option Addr) (cx k : Nat) W, Below w.heap.size w W → IRow W W.heap.size X (s ++ [((k : Nat) : Int)]) → Calls Tryz.prog 84 #[.slice A N c, .slice X (n + 1) cx] W fun e w' => ∃ Y cy, e = .returned (.slice Y (En.bfr l (s ++ [((k : Nat) : Int)])).length cy) ∧ Below W.heap.size W w') := Lib.hid fun X cx k W hW hX => by
    have := beforesOf_any A X c cx l (s ++ [((k : Nat) : Int)]) W (hr.on hW) hX hg hl (by simp; omega)
    rw [show (s ++ [((k : Nat) : Int)]).length = n + 1 from by simp; omega, ← hN] at this
    refine this.mono ?_
    rintro e w' ⟨Y, cy, h3, _, h4⟩
    rw [up_len] at h3
    exact ⟨Y, cy, h3, h4⟩
  have HRw : Hid (∀ W, Below w.heap.size w W → Row W W.heap.size A2 n (fun i => .int .i64 (s.getD i 0))) := Lib.hid fun W hW => by rw [hn]; exact hr2.on hW
  have HPlus : Hid (∀ W base v (k : Nat), W.ownsRow base 3 1 v (n + 1) ((List.range n).map (fun i => Value.int .i64 (s.getD i 0)) ++ [.int .i64 ((k : Nat) : Int)]) → ∃ X cx, v = .slice X (n + 1) cx ∧ n + 1 ≤ cx ∧ IRow W W.heap.size X (s ++ [((k : Nat) : Int)])) := Lib.hid fun W base v k h => own_plus hn.symm h
  have HRec : Hid (0 < n → ∀ W, Below w.heap.size w W → Calls Tryz.prog 51 #[.slice A N c, .slice (if c2 = 1 then A2 else Option.map (fun x => x.add 1) A2) (n - 1) (c2 - 1), .int .i64 x, .int .i64 (En.most l : Nat), .bool false] W fun e w' => e = .returned (.agg #[.int .i64 ((Pt.red (Pt.prv l x s).1 (Pt.prv l x s).2).1 : Nat), .int .i64 ((Pt.red (Pt.prv l x s).1 (Pt.prv l x s).2).2 : Nat)]) ∧ Below W.heap.size W w') := Lib.hid fun hn0 W hW => by
    cases s with
    | nil => simp at hn; omega
    | cons y t =>
      have hlen : n = t.length + 1 := by simpa using hn
      have hsub := irow_sub (hr2.on hW) c2 1 (by omega)
      have h3 := IH y t rfl A (subA A2 c2 1) c (c2 - 1) N (n - 1) W hN (by omega) (hr.on hW) hsub (by omega)
      rw [show decide (n - 1 = 2) = false from by simp at hs; simp; omega] at h3
      exact h3
  have hpp := Pt.prv_pos hg x (by omega) s
  have HPr0 : Hid (n = 0 → Pt.red (Pt.prv l x s).1 (Pt.prv l x s).2 = (1, En.most l)) := Lib.hid fun h0 => by
    cases s with
    | nil => exact Pt.red_unit _
    | cons y t => simp at hn; omega
  have HLv : Hid (Pt.lv l x s = Pt.stpS l s x (Pt.prv l x s)) := Lib.hid (Pt.lv_prv l x s)
  have hpl := Pt.prv_le hg x h1 h2 s
  have hps := Pt.prv_small hg hl hfit x s hs
  have hal := Pt.all_le hg s
  have hul := Pt.unl_le hg s
  have hwa := Pt.wt_all hg s x h1 h2
  have HZ0 : Hid (Pt.unl l s = 0 → Pt.red (Pt.lv l x s).1 (Pt.lv l x s).2 = Pt.red (Pt.prv l x s).1 (Pt.prv l x s).2) := Lib.hid fun h0 => by rw [HLv.out]; unfold Pt.stpS; rw [if_pos h0]
  have HZ1 : Hid (Pt.unl l s ≠ 0 → Pt.sumP (Pt.red (4 * Pt.wt l s x - 3) (4 * Pt.all l s)) (Pt.timP (Pt.red (3 * Pt.unl l s) (4 * Pt.all l s)) (Pt.red (Pt.prv l x s).1 (Pt.prv l x s).2)) = Pt.red (Pt.lv l x s).1 (Pt.lv l x s).2) := Lib.hid fun h0 => by
    rw [Pt.stp_red2 _ _ _ _ (by omega) hpp.2, HLv.out]
    unfold Pt.stpS
    rw [if_neg h0]
  have HZa : Hid (Pt.unl l s = 0 → Pt.all l s = 0) := Lib.hid fun h0 => by
    unfold Pt.unl at h0
    unfold Pt.all
    rw [List.eq_nil_of_length_eq_zero h0]
    rfl
  have hrl := Pt.red_le (Pt.prv l x s).1 (Pt.prv l x s).2
  have hrp := Pt.red_pos (Pt.prv l x s).1 (Pt.prv l x s).2 hpp.2
  have hq1 : (Pt.red (Pt.prv l x s).1 (Pt.prv l x s).2).1 ≤ 221184000000 := by omega
  have hq2 : (Pt.red (Pt.prv l x s).1 (Pt.prv l x s).2).2 ≤ 221184000000 := by omega
  clear hrl hpl hps hpp HLv
  generalize Pt.red (Pt.prv l x s).1 (Pt.prv l x s).2 = pq at *
  have Pn := Lib.hid (Pt.p_none l s)
  have Ps := Lib.hid (Pt.p_some l s)
  have Pe : Hid (Pt.pw l s (En.bhd l s).length x = Pt.wt l s x) := Lib.hid (by rw [Pt.pw_end hg s x]; unfold Pt.wz; rw [if_neg (by omega)])
  have Pae := Lib.hid (Pt.pa_end l s)
  have Pue := Lib.hid (Pt.pu_end l s)
  have Pal := Lib.hid (Pt.pa_le hg s)
  have Pul := Lib.hid (Pt.pu_le l s)
  have Pwl := Lib.hid (Pt.wt_len hg s)
  have Pbl := Pt.bhd_len l s
  have P0 : Hid (Pt.pw l s 0 x = 0) := Lib.hid (Pt.pw_zero l s x)
  have HUg := Lib.hid (up_getD (En.bhd l s))
  have HUl := Lib.hid (up_len (En.bhd l s))
  have HWt : Hid (∀ k, Pt.wt l s k = if 2 ≤ n then (En.plc l (s ++ [((k : Nat) : Int)])).length else (En.bfr l (s ++ [((k : Nat) : Int)])).length) := Lib.hid fun k => by rw [hn]; rfl
  have hmx : (1 : Int) ≤ (En.most l : Int) := by omega
  have HMx : Hid (max (1 : Int) ((En.most l : Nat) : Int) = ((En.most l : Nat) : Int)) := Lib.hid (by omega)
  have hn2 : n ≤ 2 := by omega
  have hl2 : l.length ≤ 150 := hl
  clear hr hr2 hg hl hN hn IH hs
  generalize Pt.red (Pt.lv l x s).1 (Pt.lv l x s).2 = res at *
  generalize En.most l = m at *
  generalize hlg : decide (n = 2) = lg at *
  have HLg := Lib.hid hlg
  clear hlg
  have R0 := Bx2.new (Below.refl w.heap.size w) (.int .i64 0) (.int .i64 0) 24
  have S0 := Bx2.new' R0.old (w.heap.size + 1) (by simp) (.int .i64 1) (.int .i64 m) 24
  have R1 := R0.on ((Below.refl _ _).alloc (Nat.le_refl _) (.cells #[.int .i64 1, .int .i64 m] 24))
  clear R0
  go_enter Tryz.func51, Tryz.ntmps51
  go_upto_region 2 with fail
  rw [HMx.out]
  generalize (w.alloc (.cells #[.int .i64 0, .int .i64 0] 24)).alloc (.cells #[.int .i64 1, .int .i64 m] 24) = W0 at *
  go_upto_if 24 with fail
  go_cut [] (fun W => Bx2 w w.heap.size (.int .i64 0) (.int .i64 0) W ∧ Bx2 w (w.heap.size + 1) (.int .i64 (pq.1 : Nat)) (.int .i64 (pq.2 : Nat)) W)
  case first =>
    by_cases h0 : n = 0
    · have E := Lib.hid (HPr0.out h0)
      clear HPr0 HRec
      subst h0
      have hd : decide ((0 : Int) < ((0 : Nat) : Int)) = false := by simp
      go_wp2_with fail
      go_meet
      rw [E.out]
      exact ⟨R1, S0⟩
    · have hd : decide ((0 : Int) < (n : Int)) = true := by simp; omega
      have hz1 : (1 : Int) ≤ (n : Int) := by omega
      have hR := HRec.out (by omega) W0 R1.old
      clear HRec HPr0
      by_cases hc1 : c2 = 1
      · subst hc1
        rw [if_pos rfl, Nat.sub_self, show n - 1 = 0 from by omega] at hR
        have HRc := Lib.hid hR
        clear hR
        go_wp2_with fail
        with_reducible refine HRc.out.mono ?_
        rintro e w2 ⟨rfl, hb2⟩
        have R2 := R1.on hb2
        have S2 := S0.on hb2
        clear HRc hb2
        have c0 := S2.c0
        have c1 := S2.c1
        have f0 := S2.f0
        have f1 := S2.f1
        have S3 := S2.set (.int .i64 (pq.1 : Nat)) (.int .i64 (pq.2 : Nat))
        have R3 := R2.other (w.heap.size + 1) (by omega) S2.ge (.int .i64 (pq.1 : Nat)) (.int .i64 (pq.2 : Nat))
        clear S2 R2
        go_wp2_with fail
        go_meet
        exact ⟨R3, S3⟩
      · obtain ⟨b, o, rfl, _, _⟩ := HRw.out W0 R1.old (by omega)
        rw [if_neg hc1, show Option.map (fun x : Addr => x.add 1) (some ⟨b, o, none⟩) = some ⟨b, o + 1, none⟩ from rfl] at hR
        have HRc := Lib.hid hR
        clear hR
        go_wp2_with fail
        with_reducible refine HRc.out.mono ?_
        rintro e w2 ⟨rfl, hb2⟩
        have R2 := R1.on hb2
        have S2 := S0.on hb2
        clear HRc hb2
        have c0 := S2.c0
        have c1 := S2.c1
        have f0 := S2.f0
        have f1 := S2.f1
        have S3 := S2.set (.int .i64 (pq.1 : Nat)) (.int .i64 (pq.2 : Nat))
        have R3 := R2.other (w.heap.size + 1) (by omega) S2.ge (.int .i64 (pq.1 : Nat)) (.int .i64 (pq.2 : Nat))
        clear S2 R2
        go_wp2_with fail
        go_meet
        exact ⟨R3, S3⟩
  case rest =>
  obtain ⟨R, S⟩ := hcut
  clear R1 S0 HRec HPr0
  generalize wc = V0 at *
  have HBh1 := Lib.hid (HBh.out V0 R.old)
  clear HBh
  go_wp2_with fail
  with_reducible refine HBh1.out.mono ?_
  rintro e w3 ⟨Y, cy, rfl, hY, hb3⟩
  have R3 := R.on hb3
  have S3 := S.on hb3
  clear HBh1 hb3 R S
  rw [HUl.out]
  generalize hk0 : (En.bhd l s).length = kk at *
  have HK0 := Lib.hid hk0
  clear hk0
  go_wp2
  go_loopw [12, 13, 14, 35] (fun s12 s13 s14 t W => ∃ k : Nat, k ≤ kk ∧ t = .int .i64 k ∧ s12 = .int .i64 (Pt.pw l s k x : Nat) ∧ s13 = .int .i64 (Pt.pa l s k : Nat) ∧ s14 = .int .i64 (Pt.pu l s k : Nat) ∧ IRow W W.heap.size Y (up (En.bhd l s)) ∧ Bx2 w w.heap.size (.int .i64 0) (.int .i64 0) W ∧ Bx2 w (w.heap.size + 1) (.int .i64 (pq.1 : Nat)) (.int .i64 (pq.2 : Nat)) W) (fun _ _ _ t _ => kk - (intOf t).toNat)
  case atStart => exact ⟨0, Nat.zero_le _, rfl, by rw [P0.out]; rfl, rfl, rfl, hY, R3, S3⟩
  case round =>
    obtain ⟨k, hk, rfl, rfl, rfl, rfl, hYk, R, S⟩ := hrel
    clear hY R3 S3 P0
    generalize wr = V at *
    by_cases hlt : k < kk
    · have hlz : (k : Int) < (kk : Int) := by omega
      obtain ⟨bY, oY, rfl, hbY, d1⟩ := hYk (by rw [HUl.out]; omega)
      have d2 : V.cell? ⟨bY, oY + k, none⟩ = some (.int .i64 ((up (En.bhd l s)).getD k 0)) := d1 k (by rw [HUl.out]; exact hlt)
      rw [HUg.out] at d2
      have HP := Lib.hid (Pn.out k hlt)
      have HS := Lib.hid (Ps.out k hlt)
      have hal' := Pal.out k
      have hul' := Pul.out k
      have HYk := Lib.hid hYk
      clear d1 hYk
      generalize (En.bhd l s).getD k 0 = y at *
      by_cases hy0 : y = 0
      · subst hy0
        obtain ⟨p1, p2, p3⟩ := HP.out rfl
        have Q1 := Lib.hid (p1 x)
        have Q2 := Lib.hid p2
        have Q3 := Lib.hid p3
        clear p1 p2 p3 HP HS HPl HBf HRw HPlus HZ0 HZ1 HZa Pn Ps Pe Pae Pue Pal Pul Pwl HUg HUl HWt
        go_wp2
        go_roundw
        case rel => exact ⟨k + 1, by omega, by go_num, by rw [Q1.out], by rw [Q2.out], by rw [Q3.out], HYk.out, R, S⟩
        case measure => simp [intOf]; omega
      · obtain ⟨p1, p2, p3⟩ := HS.out y rfl hy0
        have Q1 := Lib.hid p1
        have Q2 := Lib.hid p2
        have Q3 := Lib.hid p3
        have hwl := Pwl.out y
        have HWy0 := Lib.hid (HWt.out y)
        have hz0 : ((y : Int) == 0) = false := by simp; omega
        have hrV := HRw.out V R.old
        have hoV := R.old
        have HPly := Lib.hid (fun X cx => HPl.out X cx y)
        have HBfy := Lib.hid (fun X cx => HBf.out X cx y)
        clear p1 p2 p3 HP HS HPl HBf HRw HZ0 HZ1 HZa Pn Ps Pe Pae Pue Pal Pul Pwl HUg HUl HWt
        go_wp2_with (first
          | (at_builtin; refine wpList_app_row (o := ⟨some 42, _, _, _, _, _⟩) V rfl (.const (.slice none 0 0)) (.tmp 41) 22 rfl V.heap.size 3 (.int .i64 0) 8 Tryz.underlying22 infoInt4 rfl (.slice none 0 0) 0 [] rfl (World.ownsRow_nil _ _ _ _) A2 n c2 (fun i => .int .i64 (s.getD i 0)) rfl hrV (fun _ _ => rfl) (by unfold maxLen; omega) (by omega) (Nat.le_refl _) ?_; intro v5 w5 h5 g5 _; rw [Nat.zero_add, List.nil_append] at h5; have hB5 : Below V.heap.size V w5 := (Below.refl V.heap.size V).grown g5 (Nat.le_refl _) (fun g hg => by cases hg); have hB5s := hB5.size; clear g5)
          | (at_builtin; refine wpList_app1 (o := ⟨some 45, _, _, _, _, _⟩) _ rfl _ _ 22 rfl V.heap.size 3 (.int .i64 0) 8 Tryz.underlying22 infoInt4 rfl v5 n _ rfl w5.heap.size (.int .i64 (y : Nat)) rfl (own_below h5 ((Below.refl _ _).alloc (Nat.le_refl _) _)) (new1 _ _ _) (by simp) rfl (by unfold maxLen; omega) (by omega) (by simp; omega) ?_; intro v6 w6 h6 g6 _; obtain ⟨X, cx, hv6, hcx, hX⟩ := HPlus.out _ _ _ y h6; subst hv6; have hB6 : Below V.heap.size V w6 := (hB5.alloc hB5.size (.cells #[.int .i64 (y : Nat)] 3)).grown g6 (by simp; omega) (fun g hg => (h5.lt g hg).1); clear g6 h6))
        with_reducible refine (HPly.out _ _ _ (hoV.trans (hB6.mono hoV.size)) hX).mono ?_
        rintro e w7 ⟨Y7, cy7, rfl, hb7⟩
        have hB7 := hB6.trans (hb7.mono hB6.size)
        have hX7 := hX.on hb7
        clear hb7 hX HPly h5 hB5 hB5s hB6
        generalize hpl : (En.plc l (s ++ [((y : Nat) : Int)])).length = q1 at *
        generalize hbf : (En.bfr l (s ++ [((y : Nat) : Int)])).length = q2 at *
        clear hpl hbf
        cases lg with
        | true =>
          have hn22 : n = 2 := of_decide_eq_true HLg.out
          have HWy : Hid (Pt.wt l s y = q1) := Lib.hid (by rw [HWy0.out, if_pos (by omega)])
          have hq : q1 ≤ 150 := by rw [← HWy.out]; omega
          rw [HWy.out] at Q2
          have R7 := R.on hB7
          have S7 := S.on hB7
          clear HBfy HWy0 hn22 hX7 HPlus
          generalize Pt.pa l s k = a0 at *
          generalize Pt.pu l s k = u0 at *
          have Hb7 := Lib.hid hB7
          clear hB7 R S hrV hoV
          by_cases hyx : y = x
          · subst hyx
            have QW : Hid (Pt.pw l s (k + 1) y = q1) := Lib.hid (by rw [Q1.out y, if_pos rfl, HWy.out])
            clear Q1 HWy
            have zz : ((y : Int) == (y : Int)) = true := by simp
            generalize Pt.pw l s k y = o0 at *
            go_wp2
            go_roundw
            case rel => exact ⟨k + 1, by omega, by go_num, by rw [QW.out], by rw [Q2.out]; go_num, by rw [Q3.out]; go_num, HYk.out.on Hb7.out, R7, S7⟩
            case measure => simp [intOf]; omega
          · have QW : Hid (Pt.pw l s (k + 1) x = Pt.pw l s k x) := Lib.hid (by rw [Q1.out x, if_neg (fun h => hyx h.symm)])
            clear Q1 HWy
            have zz : ((y : Int) == (x : Int)) = false := by simp; omega
            generalize Pt.pw l s k x = o0 at *
            go_wp2
            go_roundw
            case rel => exact ⟨k + 1, by omega, by go_num, by rw [QW.out], by rw [Q2.out]; go_num, by rw [Q3.out]; go_num, HYk.out.on Hb7.out, R7, S7⟩
            case measure => simp [intOf]; omega
        | false =>
          have hn22 : ¬ n = 2 := of_decide_eq_false HLg.out
          have HWy : Hid (Pt.wt l s y = q2) := Lib.hid (by rw [HWy0.out, if_neg (by omega)])
          have hq : q2 ≤ 150 := by rw [← HWy.out]; omega
          rw [HWy.out] at Q2
          go_wp2_with fail
          with_reducible refine (HBfy.out _ _ _ (hoV.trans (hB7.mono hoV.size)) hX7).mono ?_
          rintro e w8 ⟨Y8, cy8, rfl, hb8⟩
          have hB8 := hB7.trans (hb8.mono hB7.size)
          have R8 := R.on hB8
          have S8 := S.on hB8
          clear HBfy HWy0 hn22 hX7 HPlus hB7 hb8
          generalize Pt.pa l s k = a0 at *
          generalize Pt.pu l s k = u0 at *
          have Hb8 := Lib.hid hB8
          clear hB8 R S hrV hoV
          by_cases hyx : y = x
          · subst hyx
            have QW : Hid (Pt.pw l s (k + 1) y = q2) := Lib.hid (by rw [Q1.out y, if_pos rfl, HWy.out])
            clear Q1 HWy
            have zz : ((y : Int) == (y : Int)) = true := by simp
            generalize Pt.pw l s k y = o0 at *
            go_wp2
            go_roundw
            case rel => exact ⟨k + 1, by omega, by go_num, by rw [QW.out], by rw [Q2.out]; go_num, by rw [Q3.out]; go_num, HYk.out.on Hb8.out, R8, S8⟩
            case measure => simp [intOf]; omega
          · have QW : Hid (Pt.pw l s (k + 1) x = Pt.pw l s k x) := Lib.hid (by rw [Q1.out x, if_neg (fun h => hyx h.symm)])
            clear Q1 HWy
            have zz : ((y : Int) == (x : Int)) = false := by simp; omega
            generalize Pt.pw l s k x = o0 at *
            go_wp2
            go_roundw
            case rel => exact ⟨k + 1, by omega, by go_num, by rw [QW.out], by rw [Q2.out]; go_num, by rw [Q3.out]; go_num, HYk.out.on Hb8.out, R8, S8⟩
            case measure => simp [intOf]; omega
    · obtain rfl : k = kk := by omega
      rw [Pe.out, Pae.out, Pue.out]
      clear HPl HBf HRw HPlus Pn Ps Pe Pae Pue Pal Pul Pwl HUg HUl HWt hYk
      by_cases hu : Pt.unl l s = 0
      · have E1 := Lib.hid (HZ0.out hu)
        rw [HZa.out hu]
        clear HZ0 HZ1 HZa hu
        have s0 := S.c0
        have s1 := S.c1
        have r0 := R.c0
        have r1 := R.c1
        have f0 := R.f0
        have f1 := R.f1
        have R5 := R.set (.int .i64 (pq.1 : Nat)) (.int .i64 (pq.2 : Nat))
        clear R S
        go_wp2
        have c0 := R5.c0
        have c1 := R5.c1
        refine bodyPost_ret (v := .agg #[.int .i64 (pq.1 : Nat), .int .i64 (pq.2 : Nat)]) (by simp [results, Tryz.results51, go_sem, c0, c1]) rfl ⟨by rw [E1.out], R5.old⟩
      · have E1 := HZ1.out hu
        clear HZ0 HZ1 HZa
        generalize Pt.wt l s x = o at *
        generalize Pt.all l s = a at *
        generalize Pt.unl l s = u at *
        have hz : ((a : Int) == 0) = false := by simp; omega
        have v1 : IntKind.i64.wrap (4 * (o : Int)) = 4 * (o : Int) := w64 _ (by omega) (by omega)
        have v2 : IntKind.i64.wrap (4 * (o : Int) - 3) = 4 * (o : Int) - 3 := w64 _ (by omega) (by omega)
        have v3 : IntKind.i64.wrap (4 * (a : Int)) = 4 * (a : Int) := w64 _ (by omega) (by omega)
        have v4 : IntKind.i64.wrap (3 * (u : Int)) = 3 * (u : Int) := w64 _ (by omega) (by omega)
        have HP1 : Hid (∀ W, Calls Tryz.prog 39 #[.int .i64 (max 0 (4 * (o : Int) - 3)), .int .i64 (4 * (a : Int))] W fun e w' => e = .returned (.agg #[.int .i64 ((Pt.red (4 * o - 3) (4 * a)).1 : Nat), .int .i64 ((Pt.red (4 * o - 3) (4 * a)).2 : Nat)]) ∧ Below W.heap.size W w') := Lib.hid fun W => by
          have := partR_any (4 * o - 3) (4 * a) W (by omega) (by omega) (by omega)
          rwa [show ((4 * o - 3 : Nat) : Int) = max 0 (4 * (o : Int) - 3) from by omega, show ((4 * a : Nat) : Int) = 4 * (a : Int) from by omega] at this
        have HP2 : Hid (∀ W, Calls Tryz.prog 39 #[.int .i64 (3 * (u : Int)), .int .i64 (4 * (a : Int))] W fun e w' => e = .returned (.agg #[.int .i64 ((Pt.red (3 * u) (4 * a)).1 : Nat), .int .i64 ((Pt.red (3 * u) (4 * a)).2 : Nat)]) ∧ Below W.heap.size W w') := Lib.hid fun W => by
          have := partR_any (3 * u) (4 * a) W (by omega) (by omega) (by omega)
          rwa [show ((3 * u : Nat) : Int) = 3 * (u : Int) from by omega, show ((4 * a : Nat) : Int) = 4 * (a : Int) from by omega] at this
        have g1 := Pt.red_le (4 * o - 3) (4 * a)
        have g2 := Pt.red_le (3 * u) (4 * a)
        have g3 := Pt.red_pos (4 * o - 3) (4 * a) (by omega)
        have g4 := Pt.red_pos (3 * u) (4 * a) (by omega)
        generalize Pt.red (4 * o - 3) (4 * a) = ro at *
        generalize Pt.red (3 * u) (4 * a) = ru at *
        obtain ⟨z1, z2, z3, z4⟩ := Pt.step_ok2 ro.1 ro.2 ru.1 ru.2 pq (by omega) (by omega) (by omega) (by omega) hq1 hq2
        have HT : Hid (∀ W, Calls Tryz.prog 13 #[.agg #[.int .i64 (ru.1 : Nat), .int .i64 (ru.2 : Nat)], .agg #[.int .i64 (pq.1 : Nat), .int .i64 (pq.2 : Nat)]] W fun e w' => e = .returned (.agg #[.int .i64 ((Pt.timP ru pq).1 : Nat), .int .i64 ((Pt.timP ru pq).2 : Nat)]) ∧ Below W.heap.size W w') := Lib.hid fun W => timesR_any ru.1 ru.2 pq.1 pq.2 W g4 hrp z1 z2
        have HSm : Hid (∀ W, Calls Tryz.prog 15 #[.agg #[.int .i64 (ro.1 : Nat), .int .i64 (ro.2 : Nat)], .agg #[.int .i64 ((Pt.timP ru pq).1 : Nat), .int .i64 ((Pt.timP ru pq).2 : Nat)]] W fun e w' => e = .returned (.agg #[.int .i64 (res.1 : Nat), .int .i64 (res.2 : Nat)]) ∧ Below W.heap.size W w') := Lib.hid fun W => by
          have := sumR_any ro.1 ro.2 (Pt.timP ru pq).1 (Pt.timP ru pq).2 W g3 (Pt.red_pos _ _ (Nat.mul_pos g4 hrp)) z3 z4
          rw [show ((ro.1, ro.2) : Nat × Nat) = ro from rfl, show (((Pt.timP ru pq).1, (Pt.timP ru pq).2) : Nat × Nat) = Pt.timP ru pq from rfl, E1] at this
          exact this
        clear E1 z1 z2 z3 z4
        generalize Pt.timP ru pq = tq at *
        go_wp2_with fail
        clear hz
        have R1 := R.drew
        have S1 := S.drew
        refine wp_region_takes 15 [0, 1, 2, 3, 4, 5, 7, 8, 9, 10, 12] [6, 11, 13, 14] (fun w' => w'.cell? ⟨w.heap.size + 1, 0, none⟩ = some (.int .i64 (pq.1 : Nat)) ∧ w'.cell? ⟨w.heap.size + 1, 1, none⟩ = some (.int .i64 (pq.2 : Nat))) (by kernel_rfl) (by kernel_rfl) ⟨S1.c0, S1.c1⟩ ?_
        clear R S
        refine wpTakes_cons (v := ?_) _ at0 rfl ?_ ?_ ?_
        rotate_left 1
        · rintro W ⟨x0, x1⟩
          go_simp
          rfl
        · exact fun _ _ _ h => h
        simp only [Act.put, List.setIfInBounds_toArray, List.set_cons_zero, List.set_cons_succ]
        refine wpTakes_cons (v := ?_) _ at1 rfl ?_ ?_ ?_
        rotate_left 1
        · rintro W ⟨x0, x1⟩
          go_simp
          rfl
        · exact fun _ _ _ h => h
        simp only [Act.put, List.setIfInBounds_toArray, List.set_cons_zero, List.set_cons_succ]
        refine wpTakes_cons (v := ?_) _ at2 rfl ?_ ?_ ?_
        rotate_left 1
        · rintro W ⟨x0, x1⟩
          go_simp
          rfl
        · exact fun _ _ _ h => h
        simp only [Act.put, List.setIfInBounds_toArray, List.set_cons_zero, List.set_cons_succ]
        refine wpTakes_cons (v := ?_) _ at3 rfl ?_ ?_ ?_
        rotate_left 1
        · rintro W ⟨x0, x1⟩
          go_simp
          rfl
        · exact fun _ _ _ h => h
        simp only [Act.put, List.setIfInBounds_toArray, List.set_cons_zero, List.set_cons_succ]
        refine wpTakes_cons (v := ?_) _ at4 rfl ?_ ?_ ?_
        rotate_left 1
        · rintro W ⟨x0, x1⟩
          go_simp
          rfl
        · exact fun _ _ _ h => h
        simp only [Act.put, List.setIfInBounds_toArray, List.set_cons_zero, List.set_cons_succ]
        refine wpTakes_cons (v := ?_) _ at5 rfl ?_ ?_ ?_
        rotate_left 1
        · rintro W ⟨x0, x1⟩
          go_simp
          rfl
        · exact fun _ _ _ h => h
        simp only [Act.put, List.setIfInBounds_toArray, List.set_cons_zero, List.set_cons_succ]
        refine wpTakes_cons (v := ?_) _ at7 rfl ?_ ?_ ?_
        rotate_left 1
        · rintro W ⟨x0, x1⟩
          go_simp
          rfl
        · exact fun _ _ _ h => h
        simp only [Act.put, List.setIfInBounds_toArray, List.set_cons_zero, List.set_cons_succ]
        refine wpTakes_cons (v := ?_) _ at8 rfl ?_ ?_ ?_
        rotate_left 1
        · rintro W ⟨x0, x1⟩
          go_simp
          rfl
        · exact fun _ _ _ h => h
        simp only [Act.put, List.setIfInBounds_toArray, List.set_cons_zero, List.set_cons_succ]
        refine wpTakes_cons (v := ?_) _ at9 rfl ?_ ?_ ?_
        rotate_left 1
        · rintro W ⟨x0, x1⟩
          go_simp
          rfl
        · exact fun _ _ _ h => h
        simp only [Act.put, List.setIfInBounds_toArray, List.set_cons_zero, List.set_cons_succ]
        refine wpTakes_cons (v := ?_) _ at10 rfl ?_ ?_ ?_
        rotate_left 1
        · rintro W ⟨x0, x1⟩
          go_simp
          rfl
        · exact fun _ _ _ h => h
        simp only [Act.put, List.setIfInBounds_toArray, List.set_cons_zero, List.set_cons_succ]
        refine wpTakes_cons (v := ?_) _ at12 rfl ?_ ?_ ?_
        rotate_left 1
        · rintro W ⟨x0, x1⟩
          go_simp
          rfl
        · exact fun _ _ _ h => h
        simp only [Act.put, List.setIfInBounds_toArray, List.set_cons_zero, List.set_cons_succ]
        clear v1 v2 v3 v4
        refine wpTakes_nil (wpCalls_cons _ at6 rfl fun K' hK' => ?_)
        go_simp
        go_at_call 39
        refine (HP1.out _).mono ?_
        rintro e w4 ⟨rfl, hb4⟩
        have R2 := R1.on hb4
        have S2 := S1.on hb4
        refine hK'.out _ _ ⟨S2.c0, S2.c1⟩ ?_
        clear hK' R1 S1 hb4 HP1
        refine wpCalls_cons _ at11 rfl fun K' hK' => ?_
        go_simp
        go_at_call 39
        refine (HP2.out _).mono ?_
        rintro e w5 ⟨rfl, hb5⟩
        have R3 := R2.on hb5
        have S3 := S2.on hb5
        refine hK'.out _ _ ⟨S3.c0, S3.c1⟩ ?_
        clear hK' R2 S2 hb5 HP2
        refine wpCalls_cons _ at13 rfl fun K' hK' => ?_
        go_simp
        go_at_call 13
        refine (HT.out _).mono ?_
        rintro e w6 ⟨rfl, hb6⟩
        have R4 := R3.on hb6
        have S4 := S3.on hb6
        refine hK'.out _ _ ⟨S4.c0, S4.c1⟩ ?_
        clear hK' R3 S3 hb6 HT
        refine wpCalls_cons _ at14 rfl fun K' hK' => ?_
        go_simp
        go_at_call 15
        refine (HSm.out _).mono ?_
        rintro e w7 ⟨rfl, hb7⟩
        have R5 := R4.on hb7
        have S5 := S4.on hb7
        refine hK'.out _ _ ⟨S5.c0, S5.c1⟩ (wpCalls_nil ?_)
        clear hK' R4 S4 hb7 HSm S5
        simp only [List.drop_succ_cons, List.drop_zero]
        have r0 := R5.c0
        have r1 := R5.c1
        have f0 := R5.f0
        have f1 := R5.f1
        have R6 := R5.set (.int .i64 (res.1 : Nat)) (.int .i64 (res.2 : Nat))
        clear R5
        go_wp2
        have c0 := R6.c0
        have c1 := R6.c1
        refine bodyPost_ret (v := .agg #[.int .i64 (res.1 : Nat), .int .i64 (res.2 : Nat)]) (by simp [results, Tryz.results51, go_sem, c0, c1]) rfl ⟨rfl, R6.old⟩

end Go.Proofs.YtoejenejleocdabGreatDoor
