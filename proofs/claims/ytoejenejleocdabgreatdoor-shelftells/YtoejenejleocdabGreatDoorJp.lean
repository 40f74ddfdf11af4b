import Derived.Test.YtoejenejleocdabGreatDoorJq
import Derived.Test.YtoejenejleocdabGreatDoorJy
import Derived.Test.YtoejenejleocdabGreatDoorJh
/- Of whatever index: Befores answers some numbers. -/
namespace Go.Proofs.YtoejenejleocdabGreatDoor
open Go.RowKit
attribute [local irreducible] Bt.pop Bt.popF

set_option maxHeartbeats 1000000 in
theorem befores_raw (E L S A : Option Addr) (cE cL cS nE nL M c : Nat) (N D : Int) (s : List Int) (w : World) (h : RC w E L S cE cL nE nL M N) (hr : IRow w w.heap.size A s) (hcap : s.length ≤ c) (hs : s.length ≤ 17592186044416) :
    Calls Tryz.prog 144 #[.agg #[.slice E nE cE, .int .i64 N, .int .i64 D, .slice L nL cL, .slice S M cS], .slice A s.length c] w (SomeL w 65536) := by
  have hb := (Below.refl _ w).alloc (Nat.le_refl _) (.cells #[.slice E nE cE, .int .i64 N, .int .i64 D, .slice L nL cL, .slice S M cS] 33)
  have J : CR w w.heap.size E L S cE cL cS nE nL M N D _ := CR.start h cS D (Below.refl _ _) 33
  have HF := Lib.hid (J.find A c s (hr.on hb) hcap hs)
  have HK : Hid (∀ W a b, Ir a → Ir b → CR w w.heap.size E L S cE cL cS nE nL M N D W → Calls Tryz.prog 187 #[.agg #[.int .i64 N, .int .i64 D, .slice L nL cL], .int .i64 a, .int .i64 b] W (SomeL w 65536)) := Lib.hid fun W a b ia ib hW => (wkinds_raw hW.rc.lv N D cL hW.rc.capL a b hW.rc.iN ia ib).mono fun e w' ⟨v, L, e1, e2, e3, e4⟩ => ⟨v, L, e1, e2.since hW.old, e3, e4⟩
  have HJ : Hid (∀ W, Below (w.alloc (.cells #[.slice E nE cE, .int .i64 N, .int .i64 D, .slice L nL cL, .slice S M cS] 33)).heap.size (w.alloc (.cells #[.slice E nE cE, .int .i64 N, .int .i64 D, .slice L nL cL, .slice S M cS] 33)) W → CR w w.heap.size E L S cE cL cS nE nL M N D W) := Lib.hid fun W hW => J.on hW
  clear h hr J hb
  generalize s.length = n at *
  go_enter Tryz.func144, Tryz.ntmps144
  go_wp2_with fail
  with_reducible refine HF.out.mono ?_
  rintro e w1 ⟨a, b, rfl, ia, ib, hab, hb1⟩
  have J1 := HJ.out w1 hb1
  have J2 := J1.on ((Below.refl _ _).alloc (Nat.le_refl _) (.cells #[.int .i64 a, .int .i64 b] 115))
  have c0 := J1.c0
  have c1 := J1.c1
  have c2 := J1.c2
  have c3 := J1.c3
  have c4 := J1.c4
  have hlt := J1.lt
  clear HF hb1 HJ J1
  go_wp2_with fail
  with_reducible refine (HK.out _ _ _ ia ib J2).mono ?_
  rintro e w2 ⟨v, K, rfl, O2, l2, p2⟩
  clear HK J2 c0 c1 c2 c3 c4
  obtain ⟨A9, c9, rfl, _⟩ := own_slice O2.own
  go_wp2
  go_ret
  exact ⟨_, K, rfl, O2, l2, p2⟩

end Go.Proofs.YtoejenejleocdabGreatDoor

/- Of whatever index: greatest and weight; of whatever numbers: isPart, lowest. -/
namespace Go.Proofs.YtoejenejleocdabGreatDoor
open Go.RowKit
attribute [local irreducible] Bt.pop Bt.popF

theorem greatest_raw (E L S : Option Addr) (nE cE : Nat) (N D : Int) (nL cL M cS : Nat) (w : World) (hm : M < 4611686018427387904) :
    Calls Tryz.prog 48 #[.agg #[.slice E nE cE, .int .i64 N, .int .i64 D, .slice L nL cL, .slice S M cS]] w fun e w' => e = .returned (.int .i64 ((M - 2 : Nat) : Int)) ∧ Below w.heap.size w w' := by
  by_cases h2 : 2 ≤ M
  · obtain ⟨m, rfl⟩ : ∃ m, M = m + 2 := ⟨M - 2, by omega⟩
    have HZ := Lib.hid (show ((m + 2 : Nat) : Int) - 2 = (m : Int) by omega)
    rw [Nat.add_sub_cancel]
    go_enter Tryz.func48, Tryz.ntmps48
    go_wp2
    go_ret
    exact ⟨rfl, (Below.refl _ _).alloc (Nat.le_refl _) _⟩
  · have h3 : M = 0 ∨ M = 1 := by omega
    rcases h3 with rfl | rfl
    · go_enter Tryz.func48, Tryz.ntmps48
      go_wp2
      go_ret
      exact ⟨rfl, (Below.refl _ _).alloc (Nat.le_refl _) _⟩
    · go_enter Tryz.func48, Tryz.ntmps48
      go_wp2
      go_ret
      exact ⟨rfl, (Below.refl _ _).alloc (Nat.le_refl _) _⟩

set_option maxHeartbeats 1000000 in
theorem weight_raw (E L S A : Option Addr) (cE cL cS nE nL M c : Nat) (N D : Int) (s : List Int) (w : World) (h : RC w E L S cE cL nE nL M N) (hr : IRow w w.heap.size A s) (hcap : s.length ≤ c) (hs : s.length ≤ 17592186044416) :
    Calls Tryz.prog 112 #[.agg #[.slice E nE cE, .int .i64 N, .int .i64 D, .slice L nL cL, .slice S M cS], .slice A s.length c] w (SomeI w) := by
  have J : CR w w.heap.size E L S cE cL cS nE nL M N D _ := CR.start h cS D (Below.refl _ _) 33
  have hrb := hr.on ((Below.refl _ w).alloc (Nat.le_refl _) (.cells #[.slice E nE cE, .int .i64 N, .int .i64 D, .slice L nL cL, .slice S M cS] 33))
  have HC := Lib.hid (combCount_raw E L S A cE cL cS nE nL M c N D s _ J.rc hrb hcap hs)
  have HB := Lib.hid (befores_raw E L S A cE cL cS nE nL M c N D s _ J.rc hrb hcap hs)
  have Ho := Lib.hid J.old
  clear h hr hrb J
  generalize s.length = n at *
  by_cases hz : (2 : Int) < (n : Int)
  · go_enter Tryz.func112, Tryz.ntmps112
    go_wp2_with fail
    with_reducible refine HC.out.mono ?_
    rintro e w1 ⟨a, rfl, ia, hb1⟩
    clear HC HB
    go_wp2
    go_ret
    exact ⟨a, rfl, ia, Ho.out.trans (hb1.mono Ho.out.size)⟩
  · go_enter Tryz.func112, Tryz.ntmps112
    go_wp2_with fail
    with_reducible refine HB.out.mono ?_
    rintro e w1 ⟨v, K, rfl, O1, l1, _⟩
    clear HC HB
    obtain ⟨A9, c9, rfl, _⟩ := own_slice O1.own
    have hold := O1.old
    clear O1
    go_wp2
    go_ret
    exact ⟨(K.length : Nat), rfl, by unfold Ir; omega, Ho.out.trans (hold.mono Ho.out.size)⟩

theorem isPart_raw (n d : Int) (w : World) : Calls Tryz.prog 40 #[.agg #[.int .i64 n, .int .i64 d]] w fun e w' => e = .returned (.bool (decide (0 ≤ n ∧ 1 ≤ d))) ∧ Below w.heap.size w w' := by
  by_cases h1 : 0 ≤ n
  · by_cases h2 : 1 ≤ d
    · have HH := Lib.hid (show decide (0 ≤ n ∧ 1 ≤ d) = true by simp [h1, h2])
      rw [HH.out]
      go_enter Tryz.func40, Tryz.ntmps40
      go_wp2
      go_ret
      exact ⟨by first | rfl | simp, (Below.refl _ _).alloc (Nat.le_refl _) _⟩
    · have HH := Lib.hid (show decide (0 ≤ n ∧ 1 ≤ d) = false by simp [h2])
      rw [HH.out]
      go_enter Tryz.func40, Tryz.ntmps40
      go_wp2
      go_ret
      exact ⟨by first | rfl | simp, (Below.refl _ _).alloc (Nat.le_refl _) _⟩
  · have HH := Lib.hid (show decide (0 ≤ n ∧ 1 ≤ d) = false by simp [h1])
    rw [HH.out]
    go_enter Tryz.func40, Tryz.ntmps40
    go_wp2
    go_ret
    exact ⟨by first | rfl | simp, (Below.refl _ _).alloc (Nat.le_refl _) _⟩

end Go.Proofs.YtoejenejleocdabGreatDoor

/- Of whatever index: Behinds answers some numbers, rising or not. -/
namespace Go.Proofs.YtoejenejleocdabGreatDoor
open Go.RowKit
attribute [local irreducible] Bt.pop Bt.popF

/-- some numbers of an index, in a row of the call's own -/
def SomeB (w : World) (M : Nat) (e : Ending) (w' : World) : Prop := ∃ v K, e = .returned v ∧ OL w K v w' ∧ K.length ≤ M ∧ ∀ x ∈ K, 0 ≤ x ∧ x + 1 < (M : Int)

set_option maxHeartbeats 2000000 in
theorem behinds_raw (E L S A : Option Addr) (cE cL cS nE nL M c : Nat) (N D : Int) (s : List Int) (w : World) (h : RC w E L S cE cL nE nL M N) (hM : M ≤ 17592186044416) (hr : IRow w w.heap.size A s) (hs : s.length ≤ 17592186044415) :
    Calls Tryz.prog 111 #[.agg #[.slice E nE cE, .int .i64 N, .int .i64 D, .slice L nL cL, .slice S M cS], .slice A s.length c] w (SomeB w M) := by
  obtain ⟨w0, hw0⟩ : ∃ w0, w0 = w.alloc (.cells #[.slice E nE cE, .int .i64 N, .int .i64 D, .slice L nL cL, .slice S M cS] 33) := ⟨_, rfl⟩
  have hb : Below w.heap.size w w0 := by rw [hw0]; exact (Below.refl _ w).alloc (Nat.le_refl _) _
  have J : CR w w.heap.size E L S cE cL cS nE nL M N D w0 := by rw [hw0]; exact CR.start h cS D (Below.refl _ _) 33
  have HC := Lib.hid (clone_any A c s w0 (hr.on hb) (by omega))
  have HJ : Hid (∀ W, Below w0.heap.size w0 W → CR w w.heap.size E L S cE cL cS nE nL M N D W) := Lib.hid fun W hW => J.on hW
  have hM2 := h.sM
  have HNum : Hid (∀ (n g cap b1 : Nat) (k : Int) (K : List Int) (v : Value) W, BH w0 n g cap b1 s k K v W → Calls Tryz.prog 143 #[.agg #[.slice E nE cE, .int .i64 N, .int .i64 D, .slice L nL cL, .slice S M cS]] W fun e w' => e = .returned (.int .i64 ((M : Int) - 1)) ∧ BH w0 n g cap b1 s k K v w') := Lib.hid fun n g cap b1 k K v W hW => (numbers_raw E L S nE cE N D nL cL M cS W hM2).mono fun e w' hh => And.intro hh.1 (hW.on hh.2)
  have HCn : Hid (∀ (n g cap b1 : Nat) (k : Nat) (K : List Int) (v : Value) W, BH w0 n g cap b1 s k K v W → Calls Tryz.prog 53 #[.agg #[.slice E nE cE, .int .i64 N, .int .i64 D, .slice L nL cL, .slice S M cS], .slice (some ⟨g, 0, none⟩) (n + 1) cap] W fun e w' => ∃ a : Int, e = .returned (.int .i64 a) ∧ BH w0 n g cap b1 s k K v w') := Lib.hid fun n g cap b1 k K v W hW => by
    have J1 := HJ.out W hW.old
    have hc := hW.capOk
    have e1 : (s ++ [(k : Int)]).length = n + 1 := by rw [List.length_append, hW.len]; rfl
    have := combCount_raw E L S (some ⟨g, 0, none⟩) cE cL cS nE nL M cap N D (s ++ [(k : Int)]) W J1.rc hW.row (by omega) (by have := hW.len; omega)
    rw [e1] at this
    exact this.mono fun e w' ⟨a, e1, _, e3⟩ => ⟨a, e1, hW.on e3⟩
  obtain ⟨R, hR⟩ : ∃ R : Int, (M : Int) - 1 = R := ⟨_, rfl⟩
  rw [hR] at HNum
  have hR2 : R < 17592186044416 := by omega
  have HR := Lib.hid hR
  have HW0 := Lib.hid hw0
  have Hb := Lib.hid hb
  have Hsz : Hid (w0.heap.size = w.heap.size + 1) := Lib.hid (by rw [hw0]; simp)
  generalize hnn : s.length = n at *
  have Hn := Lib.hid hnn
  clear h hr J hb hw0 hnn hM hM2 hR
  go_enter Tryz.func111, Tryz.ntmps111
  go_wp2_with fail
  rw [← HW0.out]
  with_reducible refine HC.out.mono ?_
  rintro e w1 ⟨v, rfl, h1, h2⟩
  clear HC
  obtain ⟨X, cx, rfl, hcx⟩ := own_slice h1
  have hbs := h2.size
  go_wp2_with (at_builtin; refine wpList_app1 _ rfl _ _ 22 rfl w0.heap.size 3 (.int .i64 0) 8 Tryz.underlying22 infoInt4 rfl _ n _ rfl w1.heap.size (.int .i64 0) rfl (own_below h1 ((Below.refl _ _).alloc (Nat.le_refl _) _)) (new1 _ _ _) (by simp) (by simp [Value.oneCell']) (by unfold maxLen; omega) (by omega) (by simp; omega) ?_; intro v' w2 hown hg _; obtain ⟨g, cap, hv', _, _⟩ := hown.form (by omega); subst hv'; have J0 : BH w0 n g cap w2.heap.size s 0 [] (.slice none 0 0) w2 := ⟨hown, World.ownsRow_nil _ _ _ _, (h2.alloc h2.size _).grown hg (by simp; omega) (fun g' e => (h1.lt g' e).1), (hown.lt g rfl).2, Nat.le_refl _, Hn.out.symm⟩; have c0 := (HJ.out w2 J0.old).c0; have c1 := (HJ.out w2 J0.old).c1; have c2 := (HJ.out w2 J0.old).c2; have c3 := (HJ.out w2 J0.old).c3; have c4 := (HJ.out w2 J0.old).c4; clear hg hown h1 h2 hcx hbs)
  generalize w2.heap.size = b1 at *
  with_reducible refine (HNum.out n g cap b1 0 [] _ w2 J0).mono ?_
  rintro e w3 ⟨rfl, J1⟩
  clear HNum J0 c0 c1 c2 c3 c4
  go_wp2
  go_loopw [6, 14] (fun s6 t W => ∃ (k : Nat) (q : Int) (K : List Int), (k = 0 ∨ (k : Int) ≤ R) ∧ t = .int .i64 k ∧ K.length ≤ k ∧ (∀ x ∈ K, 0 ≤ x ∧ x < (k : Int)) ∧ BH w0 n g cap b1 s q K s6 W) (fun _ t _ => R.toNat - (intOf t).toNat)
  case atStart => exact ⟨0, 0, [], .inl rfl, rfl, Nat.le_refl _, fun x hx => absurd hx (by simp), J1⟩
  case round =>
    obtain ⟨k, q, K, hk, rfl, hl, hx, J⟩ := hrel
    clear J1
    by_cases hlt : (k : Int) < R
    · have HCk := Lib.hid (HCn.out n g cap b1 k K)
      have cl := J.last
      have fl := J.mo.frozenAt n
      have J2 := J.set (k : Int)
      have C0 := HJ.out _ J2.old
      have c0 := C0.c0
      have c1 := C0.c1
      have c2 := C0.c2
      have c3 := C0.c3
      have c4 := C0.c4
      have HX := Lib.hid hx
      clear C0 J hx
      go_wp2_with fail
      with_reducible refine (HCk.out _ _ J2).mono ?_
      rintro e w4 ⟨m, rfl, J3⟩
      clear HCk J2 c0 c1 c2 c3 c4 cl fl HCn
      by_cases hm : 0 < m
      · have J4 := J3.on ((Below.refl _ _).alloc (Nat.le_refl _) (.cells #[.int .i64 k] 3))
        have hb1 := J4.b1le
        have hmx : K.length + 1 ≤ maxLen := by unfold maxLen; omega
        obtain ⟨Y, cy, hy, _⟩ := own_slice J3.bh
        subst hy
        go_wp2_with (at_builtin; refine wpList_app1 _ rfl _ _ 22 rfl b1 3 (.int .i64 0) 8 Tryz.underlying22 infoInt4 rfl _ K.length _ rfl w4.heap.size (.int .i64 k) rfl J4.bh (new1 _ _ _) (by simp) rfl hmx (by omega) hb1 ?_; intro v' w5 h5 h6 _; have J5 := J4.app (k : Int) h5 h6)
        go_roundw
        case rel => exact ⟨k + 1, k, K ++ [(k : Int)], .inr (by omega), by go_num, by rw [List.length_append]; simp; omega, fun x hx => by
          rcases List.mem_append.1 hx with hx | hx
          · have := HX.out x hx; omega
          · simp at hx; omega, J5⟩
        case measure => simp [intOf]; omega
      · go_wp2
        go_roundw
        case rel => exact ⟨k + 1, k, K, .inr (by omega), by go_num, by omega, fun x hx => by have := HX.out x hx; omega, J3⟩
        case measure => simp [intOf]; omega
    · have hold := Hb.out.trans (J.old.mono Hb.out.size)
      have hbh := J.bh
      have hbb : w.heap.size ≤ b1 := by have := (J.mo.lt g rfl).1; have := J.glt; have := Hsz.out; omega
      have HO := Lib.hid (own_base hbh hbb)
      have HP : Hid (K.length ≤ M ∧ ∀ x ∈ K, 0 ≤ x ∧ x + 1 < (M : Int)) := Lib.hid (by
        have := HR.out
        refine ⟨by omega, fun x hx' => ?_⟩
        have := hx x hx'
        omega)
      obtain ⟨Y, cy, hy, _⟩ := own_slice hbh
      subst hy
      clear HCn J hbh hbb hx
      go_wp2
      go_ret
      exact ⟨_, K, rfl, ⟨HO.out, hold⟩, HP.out.1, HP.out.2⟩

end Go.Proofs.YtoejenejleocdabGreatDoor

/- Of whatever parts: lowest, Times, Add answer some part. -/
namespace Go.Proofs.YtoejenejleocdabGreatDoor
open Go.RowKit
attribute [local irreducible] Bt.pop Bt.popF

/-- some part -/
def SomeP (w : World) (e : Ending) (w' : World) : Prop := ∃ n d : Int, e = .returned (.agg #[.int .i64 n, .int .i64 d]) ∧ Ir n ∧ Ir d ∧ 0 ≤ n ∧ 1 ≤ d ∧ Below w.heap.size w w'

set_option maxHeartbeats 1000000 in
theorem lowest_no (n d : Int) (w : World) (hg : NG w) (hp : decide (0 ≤ n ∧ 1 ≤ d) = false) :
    Calls Tryz.prog 42 #[.int .i64 n, .int .i64 d] w (SomeP w) := by
  have HP := Lib.hid (fun W => isPart_raw n d W)
  rw [hp] at HP
  have R0 := Bx2.new (Below.refl w.heap.size w) (.int .i64 0) (.int .i64 0) 24
  have G0 := hg.on ((Below.refl _ w).alloc (Nat.le_refl _) (.cells #[.int .i64 0, .int .i64 0] 24))
  clear hg hp
  go_enter Tryz.func42, Tryz.ntmps42
  go_wp2_with fail
  with_reducible refine (HP.out _).mono ?_
  rintro e w1 ⟨rfl, hb1⟩
  have R1 := R0.on hb1
  have G1 := G0.on hb1
  clear HP R0 G0 hb1
  have n0 := G1.n0
  have n1 := G1.n1
  have r0 := R1.c0
  have r1 := R1.c1
  have f0 := R1.f0
  have f1 := R1.f1
  have R2 := R1.set (.int .i64 0) (.int .i64 1)
  clear G1 R1
  go_wp2
  have c0 := R2.c0
  have c1 := R2.c1
  refine bodyPost_ret (v := .agg #[.int .i64 0, .int .i64 1]) (by simp [results, Tryz.results42, go_sem, c0, c1]) rfl ⟨0, 1, rfl, by unfold Ir; omega, by unfold Ir; omega, by omega, by omega, R2.old⟩

theorem lowest_raw (n d : Int) (w : World) (hg : NG w) (hn : Ir n) (hd : Ir d) :
    Calls Tryz.prog 42 #[.int .i64 n, .int .i64 d] w (SomeP w) := by
  cases hp : decide (0 ≤ n ∧ 1 ≤ d) with
  | false => exact lowest_no n d w hg hp
  | true =>
    have hp2 : 0 ≤ n ∧ 1 ≤ d := by simpa using hp
    unfold Ir at hn hd
    obtain ⟨a, rfl⟩ := Int.eq_ofNat_of_zero_le hp2.1
    obtain ⟨b, rfl⟩ := Int.eq_ofNat_of_zero_le (show 0 ≤ d by omega)
    refine (lowestP_any a b w (by omega) (by omega) (by omega)).mono ?_
    rintro e w' ⟨rfl, hb⟩
    have h1 : (Pt.red a b).1 ≤ a := Nat.div_le_self _ _
    have h2 : (Pt.red a b).2 ≤ b := Nat.div_le_self _ _
    have h3 : 1 ≤ (Pt.red a b).2 := Nat.div_pos (Nat.le_of_dvd (by omega) (Nat.gcd_dvd_right a b)) (Nat.gcd_pos_of_pos_right a (by omega))
    exact ⟨_, _, rfl, by unfold Ir; omega, by unfold Ir; omega, by omega, by omega, hb⟩

/-- two parts and the answer, in three blocks of the call's own; 'nothing' -/
structure P3 (w : World) (a b c d : Int) (W : World) : Prop where
  a : Bx2 w w.heap.size (.int .i64 a) (.int .i64 b) W
  b : Bx2 w (w.heap.size + 1) (.int .i64 c) (.int .i64 d) W
  r : Bx2 w (w.heap.size + 1 + 1) (.int .i64 0) (.int .i64 0) W
  g : NG W
theorem P3.on {w : World} {a b c d : Int} {W W' : World} (h : P3 w a b c d W) (hb : Below W.heap.size W W') : P3 w a b c d W' := ⟨h.a.on hb, h.b.on hb, h.r.on hb, h.g.on hb⟩
theorem P3.start (w : World) (a b c d : Int) (hg : NG w) (t : TypeId) : P3 w a b c d (((w.alloc (.cells #[.int .i64 a, .int .i64 b] t)).alloc (.cells #[.int .i64 c, .int .i64 d] t)).alloc (.cells #[.int .i64 0, .int .i64 0] t)) := by
  have A0 := Bx2.new (Below.refl w.heap.size w) (.int .i64 a) (.int .i64 b) t
  have B0 := Bx2.new' A0.old (w.heap.size + 1) (by simp) (.int .i64 c) (.int .i64 d) t
  have R0 := Bx2.new' B0.old (w.heap.size + 1 + 1) (by simp) (.int .i64 0) (.int .i64 0) t
  have b2 := (Below.refl _ (w.alloc (.cells #[.int .i64 a, .int .i64 b] t))).alloc (Nat.le_refl _) (.cells #[.int .i64 c, .int .i64 d] t)
  have b3 := (Below.refl _ ((w.alloc (.cells #[.int .i64 a, .int .i64 b] t)).alloc (.cells #[.int .i64 c, .int .i64 d] t))).alloc (Nat.le_refl _) (.cells #[.int .i64 0, .int .i64 0] t)
  exact ⟨(A0.on b2).on b3, B0.on b3, R0, hg.on R0.old⟩

set_option maxHeartbeats 1000000 in
theorem times_no1 (a b c d : Int) (w : World) (hg : NG w) (hp : decide (0 ≤ a ∧ 1 ≤ b) = false) :
    Calls Tryz.prog 16 #[.agg #[.int .i64 a, .int .i64 b], .agg #[.int .i64 c, .int .i64 d]] w (SomeP w) := by
  have J0 := P3.start w a b c d hg 24
  have HP1 := Lib.hid (fun W (hW : P3 w a b c d W) => (isPart_raw a b W).mono fun e w' hh => And.intro hh.1 (hW.on hh.2))
  have HP2 := Lib.hid (fun W (hW : P3 w a b c d W) => (isPart_raw c d W).mono fun e w' hh => And.intro hh.1 (hW.on hh.2))
  rw [hp] at HP1
  clear HP2
  clear hg hp 
  go_enter Tryz.func16, Tryz.ntmps16
  go_wp2_with fail
  with_reducible refine (HP1.out _ J0).mono ?_
  rintro e w1 ⟨rfl, J1⟩
  clear HP1 J0
  have n0 := J1.g.n0
  have n1 := J1.g.n1
  have r0 := J1.r.c0
  have r1 := J1.r.c1
  have f0 := J1.r.f0
  have f1 := J1.r.f1
  have R2 := J1.r.set (.int .i64 0) (.int .i64 1)
  clear J1
  go_wp2
  have c0 := R2.c0
  have c1 := R2.c1
  refine bodyPost_ret (v := .agg #[.int .i64 0, .int .i64 1]) (by simp [results, Tryz.results16, go_sem, c0, c1]) rfl ⟨0, 1, rfl, by unfold Ir; omega, by unfold Ir; omega, by omega, by omega, R2.old⟩

set_option maxHeartbeats 1000000 in
theorem times_no2 (a b c d : Int) (w : World) (hg : NG w) (hq : decide (0 ≤ a ∧ 1 ≤ b) = true) (hp : decide (0 ≤ c ∧ 1 ≤ d) = false) :
    Calls Tryz.prog 16 #[.agg #[.int .i64 a, .int .i64 b], .agg #[.int .i64 c, .int .i64 d]] w (SomeP w) := by
  have J0 := P3.start w a b c d hg 24
  have HP1 := Lib.hid (fun W (hW : P3 w a b c d W) => (isPart_raw a b W).mono fun e w' hh => And.intro hh.1 (hW.on hh.2))
  have HP2 := Lib.hid (fun W (hW : P3 w a b c d W) => (isPart_raw c d W).mono fun e w' hh => And.intro hh.1 (hW.on hh.2))
  rw [hq] at HP1
  rw [hp] at HP2
  clear hg hp hq
  go_enter Tryz.func16, Tryz.ntmps16
  go_wp2_with fail
  with_reducible refine (HP1.out _ J0).mono ?_
  rintro e w1 ⟨rfl, J1⟩
  clear HP1 J0
  have b0 := J1.b.c0
  have b1 := J1.b.c1
  go_wp2_with fail
  with_reducible refine (HP2.out _ J1).mono ?_
  clear J1 b0 b1 HP2
  rintro e w1 ⟨rfl, J1⟩
  have n0 := J1.g.n0
  have n1 := J1.g.n1
  have r0 := J1.r.c0
  have r1 := J1.r.c1
  have f0 := J1.r.f0
  have f1 := J1.r.f1
  have R2 := J1.r.set (.int .i64 0) (.int .i64 1)
  clear J1
  go_wp2
  have c0 := R2.c0
  have c1 := R2.c1
  refine bodyPost_ret (v := .agg #[.int .i64 0, .int .i64 1]) (by simp [results, Tryz.results16, go_sem, c0, c1]) rfl ⟨0, 1, rfl, by unfold Ir; omega, by unfold Ir; omega, by omega, by omega, R2.old⟩

set_option maxHeartbeats 1000000 in
theorem times_yes (a b c d : Int) (w : World) (hg : NG w) (hp : decide (0 ≤ a ∧ 1 ≤ b) = true) (hq : decide (0 ≤ c ∧ 1 ≤ d) = true) :
    Calls Tryz.prog 16 #[.agg #[.int .i64 a, .int .i64 b], .agg #[.int .i64 c, .int .i64 d]] w (SomeP w) := by
  have J0 := P3.start w a b c d hg 24
  have HP1 := Lib.hid (fun W (hW : P3 w a b c d W) => (isPart_raw a b W).mono fun e w' hh => And.intro hh.1 (hW.on hh.2))
  have HP2 := Lib.hid (fun W (hW : P3 w a b c d W) => (isPart_raw c d W).mono fun e w' hh => And.intro hh.1 (hW.on hh.2))
  rw [hp] at HP1
  rw [hq] at HP2
  have HL := Lib.hid (fun W (hW : P3 w a b c d W) => (lowest_raw (wrap64 (a * c)) (wrap64 (b * d)) W hW.g (ir_wrap64 _) (ir_wrap64 _)).mono (R' := fun e w' => ∃ n m : Int, e = .returned (.agg #[.int .i64 n, .int .i64 m]) ∧ (Ir n ∧ Ir m ∧ 0 ≤ n ∧ 1 ≤ m) ∧ P3 w a b c d w') fun e w' ⟨n, m, e1, e2, e3, e4, e5, e6⟩ => ⟨n, m, e1, ⟨e2, e3, e4, e5⟩, hW.on e6⟩)
  clear hg hp hq
  go_enter Tryz.func16, Tryz.ntmps16
  go_wp2_with fail
  with_reducible refine (HP1.out _ J0).mono ?_
  rintro e w1 ⟨rfl, J1⟩
  clear HP1 J0
  have b0 := J1.b.c0
  have b1 := J1.b.c1
  go_wp2_with fail
  with_reducible refine (HP2.out _ J1).mono ?_
  clear J1 b0 b1 HP2
  rintro e w1 ⟨rfl, J1⟩
  have a0 := J1.a.c0
  have a1 := J1.a.c1
  have b0 := J1.b.c0
  have b1 := J1.b.c1
  go_wp2_with fail
  with_reducible refine (HL.out _ J1).mono ?_
  clear J1 a0 a1 b0 b1 HL
  rintro e w3 ⟨n, m, rfl, hnm, J1⟩
  have HN := Lib.hid hnm
  clear hnm
  have r0 := J1.r.c0
  have r1 := J1.r.c1
  have g0 := J1.r.f0
  have g1 := J1.r.f1
  have R5 := J1.r.set (.int .i64 n) (.int .i64 m)
  clear J1
  go_wp2
  clear r0 r1 g0 g1
  have c0 := R5.c0
  have c1 := R5.c1
  refine bodyPost_ret (v := .agg #[.int .i64 n, .int .i64 m]) (by simp [results, Tryz.results16, go_sem, c0, c1]) rfl ⟨n, m, rfl, HN.out.1, HN.out.2.1, HN.out.2.2.1, HN.out.2.2.2, R5.old⟩

/-- TIMES of whatever parts -/
theorem times_raw (a b c d : Int) (w : World) (hg : NG w) : Calls Tryz.prog 16 #[.agg #[.int .i64 a, .int .i64 b], .agg #[.int .i64 c, .int .i64 d]] w (SomeP w) := by
  cases hp : decide (0 ≤ a ∧ 1 ≤ b) with
  | false => exact times_no1 a b c d w hg hp
  | true =>
    cases hq : decide (0 ≤ c ∧ 1 ≤ d) with
    | false => exact times_no2 a b c d w hg hp hq
    | true => exact times_yes a b c d w hg hp hq

end Go.Proofs.YtoejenejleocdabGreatDoor

/- Of whatever parts: Add answers some part. -/
namespace Go.Proofs.YtoejenejleocdabGreatDoor
open Go.RowKit
attribute [local irreducible] Bt.pop Bt.popF

set_option maxHeartbeats 1000000 in
theorem add_no1 (a b c d : Int) (w : World) (hg : NG w) (hp : decide (0 ≤ a ∧ 1 ≤ b) = false) :
    Calls Tryz.prog 14 #[.agg #[.int .i64 a, .int .i64 b], .agg #[.int .i64 c, .int .i64 d]] w (SomeP w) := by
  have J0 := P3.start w a b c d hg 24
  have HP1 := Lib.hid (fun W (hW : P3 w a b c d W) => (isPart_raw a b W).mono fun e w' hh => And.intro hh.1 (hW.on hh.2))
  have HP2 := Lib.hid (fun W (hW : P3 w a b c d W) => (isPart_raw c d W).mono fun e w' hh => And.intro hh.1 (hW.on hh.2))
  rw [hp] at HP1
  clear HP2
  clear hg hp 
  go_enter Tryz.func14, Tryz.ntmps14
  go_wp2_with fail
  with_reducible refine (HP1.out _ J0).mono ?_
  rintro e w1 ⟨rfl, J1⟩
  clear HP1 J0
  have n0 := J1.g.n0
  have n1 := J1.g.n1
  have r0 := J1.r.c0
  have r1 := J1.r.c1
  have f0 := J1.r.f0
  have f1 := J1.r.f1
  have R2 := J1.r.set (.int .i64 0) (.int .i64 1)
  clear J1
  go_wp2
  have c0 := R2.c0
  have c1 := R2.c1
  refine bodyPost_ret (v := .agg #[.int .i64 0, .int .i64 1]) (by simp [results, Tryz.results14, go_sem, c0, c1]) rfl ⟨0, 1, rfl, by unfold Ir; omega, by unfold Ir; omega, by omega, by omega, R2.old⟩

set_option maxHeartbeats 1000000 in
theorem add_no2 (a b c d : Int) (w : World) (hg : NG w) (hq : decide (0 ≤ a ∧ 1 ≤ b) = true) (hp : decide (0 ≤ c ∧ 1 ≤ d) = false) :
    Calls Tryz.prog 14 #[.agg #[.int .i64 a, .int .i64 b], .agg #[.int .i64 c, .int .i64 d]] w (SomeP w) := by
  have J0 := P3.start w a b c d hg 24
  have HP1 := Lib.hid (fun W (hW : P3 w a b c d W) => (isPart_raw a b W).mono fun e w' hh => And.intro hh.1 (hW.on hh.2))
  have HP2 := Lib.hid (fun W (hW : P3 w a b c d W) => (isPart_raw c d W).mono fun e w' hh => And.intro hh.1 (hW.on hh.2))
  rw [hq] at HP1
  rw [hp] at HP2
  clear hg hp hq
  go_enter Tryz.func14, Tryz.ntmps14
  go_wp2_with fail
  with_reducible refine (HP1.out _ J0).mono ?_
  rintro e w1 ⟨rfl, J1⟩
  clear HP1 J0
  have b0 := J1.b.c0
  have b1 := J1.b.c1
  go_wp2_with fail
  with_reducible refine (HP2.out _ J1).mono ?_
  clear J1 b0 b1 HP2
  rintro e w1 ⟨rfl, J1⟩
  have n0 := J1.g.n0
  have n1 := J1.g.n1
  have r0 := J1.r.c0
  have r1 := J1.r.c1
  have f0 := J1.r.f0
  have f1 := J1.r.f1
  have R2 := J1.r.set (.int .i64 0) (.int .i64 1)
  clear J1
  go_wp2
  have c0 := R2.c0
  have c1 := R2.c1
  refine bodyPost_ret (v := .agg #[.int .i64 0, .int .i64 1]) (by simp [results, Tryz.results14, go_sem, c0, c1]) rfl ⟨0, 1, rfl, by unfold Ir; omega, by unfold Ir; omega, by omega, by omega, R2.old⟩

set_option maxHeartbeats 2000000 in
theorem add_yes (a c : Int) (b d : Nat) (w : World) (hg : NG w) (hbl : b < 9223372036854775808) (hdl : d < 9223372036854775808) (hp : decide (0 ≤ a ∧ 1 ≤ (b : Int)) = true) (hq : decide (0 ≤ c ∧ 1 ≤ (d : Int)) = true) :
    Calls Tryz.prog 14 #[.agg #[.int .i64 a, .int .i64 b], .agg #[.int .i64 c, .int .i64 d]] w (SomeP w) := by
  have hb1 : 1 ≤ b := by simp at hp; omega
  have hd1 : 1 ≤ d := by simp at hq; omega
  have J0 := P3.start w a b c d hg 24
  have HP1 := Lib.hid (fun W (hW : P3 w a b c d W) => (isPart_raw a b W).mono fun e w' hh => And.intro hh.1 (hW.on hh.2))
  have HP2 := Lib.hid (fun W (hW : P3 w a b c d W) => (isPart_raw c d W).mono fun e w' hh => And.intro hh.1 (hW.on hh.2))
  rw [hp] at HP1
  rw [hq] at HP2
  have HD := Lib.hid (fun W (hW : P3 w a b c d W) => (divisor_any b d W hbl hdl).mono fun e w' hh => And.intro hh.1 (hW.on hh.2))
  have hgp : 0 < Nat.gcd b d := Nat.gcd_pos_of_pos_left _ hb1
  have hgb : Nat.gcd b d ≤ b := Nat.le_of_dvd hb1 (Nat.gcd_dvd_left b d)
  have hqb : b / Nat.gcd b d ≤ b := Nat.div_le_self _ _
  have hqd : d / Nat.gcd b d ≤ d := Nat.div_le_self _ _
  have HQ1 := Lib.hid (tdiv_nat d (Nat.gcd b d))
  have HQ2 := Lib.hid (tdiv_nat b (Nat.gcd b d))
  generalize Nat.gcd b d = g at *
  generalize d / g = td at *
  generalize b / g = tb at *
  have HL := Lib.hid (fun W (hW : P3 w a b c d W) => (lowest_raw (wrap64 (wrap64 (a * td) + wrap64 (c * tb))) (wrap64 (b * td)) W hW.g (ir_wrap64 _) (ir_wrap64 _)).mono (R' := fun e w' => ∃ n m : Int, e = .returned (.agg #[.int .i64 n, .int .i64 m]) ∧ (Ir n ∧ Ir m ∧ 0 ≤ n ∧ 1 ≤ m) ∧ P3 w a b c d w') fun e w' ⟨n, m, e1, e2, e3, e4, e5, e6⟩ => ⟨n, m, e1, ⟨e2, e3, e4, e5⟩, hW.on e6⟩)
  clear hg hp hq
  go_enter Tryz.func14, Tryz.ntmps14
  go_wp2_with fail
  with_reducible refine (HP1.out _ J0).mono ?_
  rintro e w1 ⟨rfl, J1⟩
  clear HP1 J0
  have b0 := J1.b.c0
  have b1 := J1.b.c1
  go_wp2_with fail
  with_reducible refine (HP2.out _ J1).mono ?_
  clear J1 b0 b1 HP2
  rintro e w1 ⟨rfl, J1⟩
  have a1 := J1.a.c1
  have b1 := J1.b.c1
  go_wp2_with fail
  with_reducible refine (HD.out _ J1).mono ?_
  clear J1 a1 b1 HD
  rintro e w3 ⟨rfl, J1⟩
  have a1 := J1.a.c1
  have b1 := J1.b.c1
  have hz : ((g : Int) == 0) = false := by simp; omega
  have u1 : ((d : Nat) : Int).tdiv ((g : Nat) : Int) = (td : Int) := HQ1.out
  have u2 : ((b : Nat) : Int).tdiv ((g : Nat) : Int) = (tb : Int) := HQ2.out
  have u3 : IntKind.i64.wrap (td : Int) = (td : Int) := w64 _ (by omega) (by omega)
  have u4 : IntKind.i64.wrap (tb : Int) = (tb : Int) := w64 _ (by omega) (by omega)
  go_wp2
  go_quiet (fail)
  clear a1 b1 u1 u2 u3 u4 hz
  generalize hW : w3.drewN _ = w4 at *
  have hbw : Below w3.heap.size w3 w4 := by rw [← hW]; exact Below.drewN (Below.refl _ _) _
  clear hW
  have J2 := J1.on hbw
  clear J1 hbw
  have a0 := J2.a.c0
  have a1 := J2.a.c1
  have b0 := J2.b.c0
  go_wp2_with fail
  with_reducible refine (HL.out _ J2).mono ?_
  clear J2 a0 a1 b0 HL
  rintro e w5 ⟨n, m, rfl, hnm, J1⟩
  have HN := Lib.hid hnm
  clear hnm
  have r0 := J1.r.c0
  have r1 := J1.r.c1
  have g0 := J1.r.f0
  have g1 := J1.r.f1
  have R5 := J1.r.set (.int .i64 n) (.int .i64 m)
  clear J1
  go_wp2
  clear r0 r1 g0 g1
  have c0 := R5.c0
  have c1 := R5.c1
  refine bodyPost_ret (v := .agg #[.int .i64 n, .int .i64 m]) (by simp [results, Tryz.results14, go_sem, c0, c1]) rfl ⟨n, m, rfl, HN.out.1, HN.out.2.1, HN.out.2.2.1, HN.out.2.2.2, R5.old⟩

/-- ADD of whatever parts -/
theorem add_raw (a b c d : Int) (w : World) (hg : NG w) (ib : Ir b) (id : Ir d) : Calls Tryz.prog 14 #[.agg #[.int .i64 a, .int .i64 b], .agg #[.int .i64 c, .int .i64 d]] w (SomeP w) := by
  cases hp : decide (0 ≤ a ∧ 1 ≤ b) with
  | false => exact add_no1 a b c d w hg hp
  | true =>
    cases hq : decide (0 ≤ c ∧ 1 ≤ d) with
    | false => exact add_no2 a b c d w hg hp hq
    | true =>
      have h1 : 0 ≤ a ∧ 1 ≤ b := by simpa using hp
      have h2 : 0 ≤ c ∧ 1 ≤ d := by simpa using hq
      unfold Ir at ib id
      obtain ⟨b', rfl⟩ := Int.eq_ofNat_of_zero_le (show 0 ≤ b by omega)
      obtain ⟨d', rfl⟩ := Int.eq_ofNat_of_zero_le (show 0 ≤ d by omega)
      exact add_yes a c b' d' w hg (by omega) (by omega) hp hq

end Go.Proofs.YtoejenejleocdabGreatDoor

/- Of whatever index: seenBehind answers something. -/
namespace Go.Proofs.YtoejenejleocdabGreatDoor
open Go.RowKit
attribute [local irreducible] Bt.pop Bt.popF

/-- the cells of what was seen -/
def bhI (v : Value) (a u : Int) : Nat → Value := fun j => if j = 0 then v else if j = 1 then .int .i64 a else .int .i64 u

/-- what was seen, in the making: the result's block R, the weights' block G, the block B -/
structure SAr (w0 : World) (R G B m : Nat) (a u : Int) (f : Nat → Int) (W : World) : Prop where
  res : W.rowIs R 107 3 (bhI (.slice none 0 0) 0 0)
  bx : W.rowIs B 107 3 (bhI (.slice (some ⟨G, 0, none⟩) (m + 1) (m + 1)) a u)
  wts : W.rowIs G 3 (m + 1) (fun x => .int .i64 (f x))
  old : Below w0.heap.size w0 W
  r1 : w0.heap.size ≤ R
  r2 : R < G
  r3 : G < B
section
variable {w0 : World} {R G B m : Nat} {a u : Int} {f : Nat → Int} {W W' : World}
theorem SAr.on (h : SAr w0 R G B m a u f W) (hb : Below W.heap.size W W') : SAr w0 R G B m a u f W' :=
  ⟨h.res.of_block (hb.block _ h.res.lt), h.bx.of_block (hb.block _ h.bx.lt), h.wts.of_block (hb.block _ h.wts.lt), h.old.trans (hb.mono h.old.size), h.r1, h.r2, h.r3⟩
theorem SAr.grown {r : Option Nat} (h : SAr w0 R G B m a u f W) (hg : W.grownBy W' r) (hr : ∀ k, r = some k → B < k) : SAr w0 R G B m a u f W' := by
  have r1 := h.r1
  have r2 := h.r2
  have r3 := h.r3
  have ne : ∀ x, x ≤ B → some x ≠ r := fun x hx he => by have := hr x he.symm; omega
  exact ⟨h.res.of_block (hg.block _ h.res.lt (ne R (by omega))), h.bx.of_block (hg.block _ h.bx.lt (ne B (by omega))), h.wts.of_block (hg.block _ h.wts.lt (ne G (by omega))),
    h.old.grown hg h.old.size (fun k hk => by have := hr k hk; omega), r1, r2, r3⟩
theorem SAr.setX (h : SAr w0 R G B m a u f W) (X i : Nat) (v : Value) (hX : B < X) : SAr w0 R G B m a u f (W.setCell ⟨X, i, none⟩ v) := by
  have r1 := h.r1
  have r2 := h.r2
  have r3 := h.r3
  exact ⟨h.res.setOther (a := ⟨X, i, none⟩) (by show R ≠ X; omega) v, h.bx.setOther (a := ⟨X, i, none⟩) (by show B ≠ X; omega) v, h.wts.setOther (a := ⟨X, i, none⟩) (by show G ≠ X; omega) v, h.old.setCell (p := ⟨X, i, none⟩) (by show _ ≤ X; omega) v, r1, r2, r3⟩
theorem SAr.setW (h : SAr w0 R G B m a u f W) (x : Nat) (y : Int) : SAr w0 R G B m a u (fun z => if z = x then y else f z) (W.setCell ⟨G, x, none⟩ (.int .i64 y)) := by
  have r1 := h.r1
  have r2 := h.r2
  have r3 := h.r3
  exact ⟨h.res.setOther (a := ⟨G, x, none⟩) (by show R ≠ G; omega) _, h.bx.setOther (a := ⟨G, x, none⟩) (by show B ≠ G; omega) _, (h.wts.set x _).congr (fun i _ => by by_cases e : i = x <;> simp [e]), h.old.setCell (p := ⟨G, x, none⟩) (by show _ ≤ G; omega) _, r1, r2, r3⟩
theorem SAr.setA (h : SAr w0 R G B m a u f W) (a' : Int) : SAr w0 R G B m a' u f (W.setCell ⟨B, 1, none⟩ (.int .i64 a')) := by
  have r1 := h.r1
  have r2 := h.r2
  have r3 := h.r3
  refine ⟨h.res.setOther (a := ⟨B, 1, none⟩) (by show R ≠ B; omega) _, (h.bx.set 1 _).congr (fun i hi => ?_), h.wts.setOther (a := ⟨B, 1, none⟩) (by show G ≠ B; omega) _, h.old.setCell (p := ⟨B, 1, none⟩) (by show _ ≤ B; omega) _, r1, r2, r3⟩
  match i, hi with
  | 0, _ => rfl
  | 1, _ => rfl
  | 2, _ => rfl
theorem SAr.setU (h : SAr w0 R G B m a u f W) (u' : Int) : SAr w0 R G B m a u' f (W.setCell ⟨B, 2, none⟩ (.int .i64 u')) := by
  have r1 := h.r1
  have r2 := h.r2
  have r3 := h.r3
  refine ⟨h.res.setOther (a := ⟨B, 2, none⟩) (by show R ≠ B; omega) _, (h.bx.set 2 _).congr (fun i hi => ?_), h.wts.setOther (a := ⟨B, 2, none⟩) (by show G ≠ B; omega) _, h.old.setCell (p := ⟨B, 2, none⟩) (by show _ ≤ B; omega) _, r1, r2, r3⟩
  match i, hi with
  | 0, _ => rfl
  | 1, _ => rfl
  | 2, _ => rfl
theorem SAr.b0 (h : SAr w0 R G B m a u f W) : W.cell? ⟨B, 0, none⟩ = some (.slice (some ⟨G, 0, none⟩) (m + 1) (m + 1)) := h.bx.cell (i := 0) (by omega)
theorem SAr.b1 (h : SAr w0 R G B m a u f W) : W.cell? ⟨B, 1, none⟩ = some (.int .i64 a) := h.bx.cell (i := 1) (by omega)
theorem SAr.b2 (h : SAr w0 R G B m a u f W) : W.cell? ⟨B, 2, none⟩ = some (.int .i64 u) := h.bx.cell (i := 2) (by omega)
theorem SAr.congr (h : SAr w0 R G B m a u f W) {f' : Nat → Int} (e : ∀ x, x ≤ m → f x = f' x) : SAr w0 R G B m a u f' W :=
  ⟨h.res, h.bx, h.wts.congr (fun i hi => by rw [e i (by omega)]), h.old, h.r1, h.r2, h.r3⟩
end

/-- with the signs and one more behind them (block X), and the signs that stand there -/
structure SBr (w0 : World) (R G B m X cap y1 n : Nat) (s : List Int) (q : Int) (K : List Int) (vY : Value) (a u : Int) (f : Nat → Int) (W : World) : Prop where
  sa : SAr w0 R G B m a u f W
  mo : W.ownsRow (B + 1) 3 1 (.slice (some ⟨X, 0, none⟩) (n + 1) cap) (n + 1) (s.map (Value.int .i64) ++ [.int .i64 q])
  bh : W.ownsRow y1 3 1 vY K.length (K.map (Value.int .i64))
  xy : X < y1
  len : n = s.length
section
variable {w0 : World} {R G B m X cap y1 n : Nat} {s : List Int} {q : Int} {K : List Int} {vY : Value} {a u : Int} {f : Nat → Int} {W W' : World}
theorem SBr.on (h : SBr w0 R G B m X cap y1 n s q K vY a u f W) (hb : Below W.heap.size W W') : SBr w0 R G B m X cap y1 n s q K vY a u f W' :=
  ⟨h.sa.on hb, own_below h.mo hb, own_below h.bh hb, h.xy, h.len⟩
theorem SBr.bX (h : SBr w0 R G B m X cap y1 n s q K vY a u f W) : B < X := by have := (h.mo.lt X rfl).1; omega
theorem SBr.row (h : SBr w0 R G B m X cap y1 n s q K vY a u f W) : IRow W W.heap.size (some ⟨X, 0, none⟩) (s ++ [q]) := by
  have h1 : W.ownsRow (B + 1) 3 1 (.slice (some ⟨X, 0, none⟩) (n + 1) cap) (n + 1) ((s ++ [q]).map (Value.int .i64)) := by simpa using h.mo
  obtain ⟨h2, h3⟩ := own_row (0 : Int) h1
  rw [h2] at h3
  exact h3
theorem SBr.capOk (h : SBr w0 R G B m X cap y1 n s q K vY a u f W) : n + 1 ≤ cap := by
  obtain ⟨A, c, e, hc⟩ := own_slice h.mo
  injection e with _ _ e
  omega
theorem SBr.last (h : SBr w0 R G B m X cap y1 n s q K vY a u f W) : W.cell? ⟨X, n, none⟩ = some (.int .i64 q) := by
  rw [h.mo.cellAt n (by omega), h.len]
  simp
theorem SBr.setM (h : SBr w0 R G B m X cap y1 n s q K vY a u f W) (x : Int) : SBr w0 R G B m X cap y1 n s x K vY a u f (W.setCell ⟨X, n, none⟩ (.int .i64 x)) := by
  have h1 := (h.mo.stored n (.int .i64 x)).1
  have e : (s.map (Value.int .i64) ++ [Value.int .i64 q]).set n (Value.int .i64 x) = s.map (Value.int .i64) ++ [Value.int .i64 x] := by
    rw [h.len]
    have : (s.map (Value.int .i64)).length = s.length := List.length_map _
    rw [List.set_append_right _ _ (by rw [this]; exact Nat.le_refl _), this, Nat.sub_self]
    rfl
  rw [e] at h1
  exact ⟨h.sa.setX X n _ h.bX, h1, ownsRow_setCell_below h.bh (a := ⟨X, n, none⟩) h.xy _, h.xy, h.len⟩
theorem SBr.low (h : SBr w0 R G B m X cap y1 n s q K vY a u f W) (k i : Nat) (v : Value) (hk : k ≤ B) {a' u' : Int} {f' : Nat → Int} (hs : SAr w0 R G B m a' u' f' (W.setCell ⟨k, i, none⟩ v)) : SBr w0 R G B m X cap y1 n s q K vY a' u' f' (W.setCell ⟨k, i, none⟩ v) :=
  ⟨hs, ownsRow_setCell_below h.mo (a := ⟨k, i, none⟩) (by show k < B + 1; omega) _, ownsRow_setCell_below h.bh (a := ⟨k, i, none⟩) (by have := h.bX; have := h.xy; show k < y1; omega) _, h.xy, h.len⟩
theorem SBr.setW (h : SBr w0 R G B m X cap y1 n s q K vY a u f W) (x : Nat) (y : Int) : SBr w0 R G B m X cap y1 n s q K vY a u (fun z => if z = x then y else f z) (W.setCell ⟨G, x, none⟩ (.int .i64 y)) := h.low G x _ (by have := h.sa.r3; omega) (h.sa.setW x y)
theorem SBr.setA (h : SBr w0 R G B m X cap y1 n s q K vY a u f W) (a' : Int) : SBr w0 R G B m X cap y1 n s q K vY a' u f (W.setCell ⟨B, 1, none⟩ (.int .i64 a')) := h.low B 1 _ (Nat.le_refl _) (h.sa.setA a')
theorem SBr.setU (h : SBr w0 R G B m X cap y1 n s q K vY a u f W) (u' : Int) : SBr w0 R G B m X cap y1 n s q K vY a u' f (W.setCell ⟨B, 2, none⟩ (.int .i64 u')) := h.low B 2 _ (Nat.le_refl _) (h.sa.setU u')
theorem SBr.congr (h : SBr w0 R G B m X cap y1 n s q K vY a u f W) {f' : Nat → Int} (e : ∀ x, x ≤ m → f x = f' x) : SBr w0 R G B m X cap y1 n s q K vY a u f' W := ⟨h.sa.congr e, h.mo, h.bh, h.xy, h.len⟩
theorem SBr.at_ (h : SBr w0 R G B m X cap y1 n s q K vY a u f W) (k : Nat) (hk : k < K.length) : ∃ Y c o, vY = .slice (some ⟨Y, o, none⟩) K.length c ∧ W.cell? ⟨Y, o + k, none⟩ = some (.int .i64 (K.getD k 0)) := by
  obtain ⟨A, c, rfl, _⟩ := own_slice h.bh
  obtain ⟨_, hr⟩ := own_row (0 : Int) h.bh
  obtain ⟨b, o, rfl, _, hc⟩ := hr (by omega)
  exact ⟨b, c, o, rfl, hc k hk⟩
end

theorem SAr.start {w0 w1 : World} {R m : Nat} (hR : w1.rowIs R 107 3 (bhI (.slice none 0 0) 0 0)) (hb : Below w0.heap.size w0 w1) (hr : w0.heap.size ≤ R) :
    SAr w0 R w1.heap.size (w1.heap.size + 1) m 0 0 (fun _ => 0) ((w1.alloc (.cells (madeCells #[.int .i64 0] (m + 1)) 3)).alloc (.cells #[.slice (some ⟨w1.heap.size, 0, none⟩) (m + 1) (m + 1), .int .i64 0, .int .i64 0] 107)) := by
  refine ⟨(hR.alloc _).alloc _, ?_, (World.rowIs_made w1 (.int .i64 0) (m + 1) 3).alloc _, (hb.alloc hb.size _).alloc (by simp; have := hb.size; omega) _, hr, hR.lt, by omega⟩
  have h := World.rowIs_alloc (w1.alloc (.cells (madeCells #[.int .i64 0] (m + 1)) 3)) #[.slice (some ⟨w1.heap.size, 0, none⟩) (m + 1) (m + 1), .int .i64 0, .int .i64 0] 107 (bhI (.slice (some ⟨w1.heap.size, 0, none⟩) (m + 1) (m + 1)) 0 0) (fun i hi => by
    match i, hi with
    | 0, _ => rfl
    | 1, _ => rfl
    | 2, _ => rfl)
  simpa using h

theorem res_setI {W : World} {R : Nat} {f : Nat → Value} (h : W.rowIs R 107 3 f) (v : Value) (a u : Int) : (((W.setCell ⟨R, 0, none⟩ v).setCell ⟨R, 1, none⟩ (.int .i64 a)).setCell ⟨R, 2, none⟩ (.int .i64 u)).rowIs R 107 3 (bhI v a u) :=
  (((h.set 0 v).set 1 _).set 2 _).congr (fun i hi => by
    match i, hi with
    | 0, _ => rfl
    | 1, _ => rfl
    | 2, _ => rfl)

/-- something seen: the weights in a block of the call's own -/
def SomeW (w : World) (m : Nat) (e : Ending) (w' : World) : Prop :=
  ∃ (g : Nat) (a u : Int) (f : Nat → Int), e = .returned (.agg #[.slice (some ⟨g, 0, none⟩) (m + 1) (m + 1), .int .i64 a, .int .i64 u]) ∧ w.heap.size ≤ g ∧ w'.rowIs g 3 (m + 1) (fun x => .int .i64 (f x)) ∧ Below w.heap.size w w'

set_option maxRecDepth 100000 in
set_option maxHeartbeats 4000000 in
theorem seenBehind_raw (E L S A : Option Addr) (cE cL cS nE nL M c : Nat) (N D : Int) (s : List Int) (w : World) (h : RC w E L S cE cL nE nL M N) (hM : M ≤ 17592186044416) (hr : IRow w w.heap.size A s) (hs : s.length ≤ 17592186044415) :
    Calls Tryz.prog 82 #[.agg #[.slice E nE cE, .int .i64 N, .int .i64 D, .slice L nL cL, .slice S M cS], .slice A s.length c] w (SomeW w (M - 2)) := by
  obtain ⟨w0, hw0⟩ : ∃ w0, w0 = w.alloc (.cells #[.slice E nE cE, .int .i64 N, .int .i64 D, .slice L nL cL, .slice S M cS] 33) := ⟨_, rfl⟩
  have hb : Below w.heap.size w w0 := by rw [hw0]; exact (Below.refl _ w).alloc (Nat.le_refl _) _
  have J : CR w w.heap.size E L S cE cL cS nE nL M N D w0 := by rw [hw0]; exact CR.start h cS D (Below.refl _ _) 33
  have HJ : Hid (∀ W, Below w0.heap.size w0 W → CR w w.heap.size E L S cE cL cS nE nL M N D W) := Lib.hid fun W hW => J.on hW
  have HGr : Hid (∀ W, Below w0.heap.size w0 W → Calls Tryz.prog 48 #[.agg #[.slice E nE cE, .int .i64 N, .int .i64 D, .slice L nL cL, .slice S M cS]] W fun e w' => e = .returned (.int .i64 ((M - 2 : Nat) : Int)) ∧ Below W.heap.size W w') := Lib.hid fun W hW => greatest_raw E L S nE cE N D nL cL M cS W h.sM
  have HC : Hid (∀ W, Below w0.heap.size w0 W → Calls Tryz.prog 94 #[.slice A s.length c] W fun e w' => ∃ v, e = .returned v ∧ w'.ownsRow W.heap.size 3 1 v s.length (s.map (Value.int .i64)) ∧ Below W.heap.size W w') := Lib.hid fun W hW => clone_any A c s W ((hr.on hb).on hW) (by omega)
  have HB : Hid (∀ W, Below w0.heap.size w0 W → Calls Tryz.prog 111 #[.agg #[.slice E nE cE, .int .i64 N, .int .i64 D, .slice L nL cL, .slice S M cS], .slice A s.length c] W (SomeB W M)) := Lib.hid fun W hW => behinds_raw E L S A cE cL cS nE nL M c N D s W (J.on hW).rc hM ((hr.on hb).on hW) hs
  have HW : Hid (∀ (R G B m X cap y1 n : Nat) (x : Int) (K : List Int) (vY : Value) (a u : Int) (f : Nat → Int) W, SBr w0 R G B m X cap y1 n s x K vY a u f W → Calls Tryz.prog 112 #[.agg #[.slice E nE cE, .int .i64 N, .int .i64 D, .slice L nL cL, .slice S M cS], .slice (some ⟨X, 0, none⟩) (n + 1) cap] W fun e w' => ∃ y : Int, e = .returned (.int .i64 y) ∧ SBr w0 R G B m X cap y1 n s x K vY a u f w') := Lib.hid fun R G B m X cap y1 n x K vY a u f W hW => by
    have hc := hW.capOk
    have hn := hW.len
    subst hn
    have e1 : (s ++ [x]).length = s.length + 1 := by simp
    have := weight_raw E L S (some ⟨X, 0, none⟩) cE cL cS nE nL M cap N D (s ++ [x]) W (J.on hW.sa.old).rc hW.row (by omega) (by omega)
    rw [e1] at this
    exact this.mono fun e w' ⟨y, e1, _, e3⟩ => ⟨y, e1, hW.on e3⟩
  have HW0 := Lib.hid hw0
  have Hb := Lib.hid hb
  have Hsz : Hid (w0.heap.size = w.heap.size + 1) := Lib.hid (by rw [hw0]; simp)
  unfold SomeW
  have hmM : (2 ≤ M ∧ (M : Int) = ((M - 2 : Nat) : Int) + 2) ∨ (M < 2 ∧ M - 2 = 0) := by omega
  generalize hm : M - 2 = m at *
  have hm44 : m ≤ 17592186044414 := by omega
  have HmM := Lib.hid hmM
  clear hmM
  have hmk := run_make_row' (P := Tryz.prog) 22 3 (.int .i64 0) 8 Tryz.underlying22 infoInt4 rfl .i64 .i64 (m + 1) (by omega) (by omega)
  rw [show ((m + 1 : Nat) : Int) = (m : Int) + 1 from by omega] at hmk
  generalize hnn : s.length = n at *
  have HNn := Lib.hid hnn
  clear h hr J hb hw0 hm hnn hM
  have hR := World.rowIs_alloc w0 #[.slice none 0 0, .int .i64 0, .int .i64 0] 107 (bhI (.slice none 0 0) 0 0) (fun i hi => by
    match i, hi with
    | 0, _ => rfl
    | 1, _ => rfl
    | 2, _ => rfl)
  have hb1 : Below w0.heap.size w0 (w0.alloc (.cells #[.slice none 0 0, .int .i64 0, .int .i64 0] 107)) := (Below.refl _ _).alloc (Nat.le_refl _) _
  go_enter Tryz.func82, Tryz.ntmps82
  go_wp2_with fail
  rw [← HW0.out]
  with_reducible refine (HGr.out _ hb1).mono ?_
  rintro e w1 ⟨rfl, hb2⟩
  have hR1 := hR.of_block (hb2.block _ (by simp))
  have hb3 := hb1.trans (hb2.mono hb1.size)
  have hsz1 : w0.heap.size + 1 ≤ w1.heap.size := by have := hb2.size; simpa using this
  have hR2 : w1.rowIs (w.heap.size + 1) 107 3 (bhI (.slice none 0 0) 0 0) := by rw [← Hsz.out]; exact hR1
  have J3 := SAr.start (m := m) hR2 hb3 (by rw [Hsz.out]; exact Nat.le_refl _)
  have HC3 := Lib.hid (HC.out _ J3.old)
  clear HGr hb2 hb1 hR hR1 hR2 hb3 HC
  go_wp2_with fail
  with_reducible refine HC3.out.mono ?_
  rintro e w4 ⟨v, rfl, h1, h2⟩
  clear HC3 hmk
  have J4 := J3.on h2
  clear J3
  simp only [World.size_alloc] at h1
  obtain ⟨A4, c4, rfl, hcx⟩ := own_slice h1
  have hbs : w1.heap.size + 1 + 1 ≤ w4.heap.size := by have := h2.size; simpa using this
  clear h2
  go_wp2_with (at_builtin; refine wpList_app1 _ rfl _ _ 22 rfl (w1.heap.size + 1 + 1) 3 (.int .i64 0) 8 Tryz.underlying22 infoInt4 rfl _ n _ rfl w4.heap.size (.int .i64 0) rfl (own_below h1 ((Below.refl _ _).alloc (Nat.le_refl _) _)) (new1 _ _ _) (by simp) (by simp [Value.oneCell']) (by unfold maxLen; omega) (by omega) (by simp; omega) ?_; intro v' w5 hown hg _; obtain ⟨X, cap, hv', _, _⟩ := hown.form (by omega); subst hv'; have J5 := (J4.on ((Below.refl _ _).alloc (Nat.le_refl _) (.cells #[.int .i64 0] 3))).grown hg (fun k hk => by have := (h1.lt k hk).1; omega); have c0 := (HJ.out w5 J5.old).c0; have c1 := (HJ.out w5 J5.old).c1; have c2 := (HJ.out w5 J5.old).c2; have c3 := (HJ.out w5 J5.old).c3; have c4' := (HJ.out w5 J5.old).c4; clear hg h1 hcx hbs J4)
  generalize hB : w1.heap.size + 1 = B at *
  generalize hG : w1.heap.size = G at *
  clear hB hG
  generalize hR : w.heap.size + 1 = R at *
  clear hR
  with_reducible refine (HB.out w5 J5.old).mono ?_
  rintro e w6 ⟨vY, K, rfl, hO, hKl, hKx⟩
  have hXy := (hown.lt X rfl).2
  have JB : SBr w0 R G B m X cap w5.heap.size n s 0 K vY 0 0 (fun _ => 0) w6 := ⟨J5.on hO.old, own_below hown hO.old, hO.own, hXy, HNn.out.symm⟩
  clear HB J5 hown hO c0 c1 c2 c3 c4' hXy
  generalize w5.heap.size = y1 at *
  obtain ⟨Y, cy, rfl, _⟩ := own_slice JB.bh
  have HKx : Hid (∀ k, k < K.length → ∃ x : Nat, K.getD k 0 = (x : Int) ∧ x ≤ m) := Lib.hid fun k hk => by
    have h1 : K.getD k 0 ∈ K := by
      rw [List.getD_eq_getElem?_getD, List.getElem?_eq_getElem hk]
      exact List.getElem_mem hk
    have h2 := hKx _ h1
    have h3 := HmM.out
    exact ⟨(K.getD k 0).toNat, by omega, by omega⟩
  clear hKx
  generalize hkk : K.length = kk at *
  have hkk2 : kk ≤ 17592186044416 := by have := HmM.out; omega
  have HK0 := Lib.hid hkk
  clear hkk
  go_wp2
  go_loopw [22] (fun t W => ∃ (k : Nat) (q a u : Int) (f : Nat → Int), k ≤ kk ∧ t = .int .i64 k ∧ SBr w0 R G B m X cap y1 n s q K (.slice Y kk cy) a u f W) (fun t _ => kk - (intOf t).toNat)
  case atStart => exact ⟨0, 0, 0, 0, fun _ => 0, Nat.zero_le _, rfl, JB⟩
  case round =>
    obtain ⟨k, q, a0, u0, f, hk, rfl, J⟩ := hrel
    clear JB
    by_cases hlt : k < kk
    · have hlz : (k : Int) < (kk : Int) := by omega
      obtain ⟨bY, cY, oY, hY, d1⟩ := J.at_ k (by rw [HK0.out]; exact hlt)
      injection hY with hY hY2 hY3
      clear hY2 hY3
      subst hY
      obtain ⟨x, hxe, hxm⟩ := HKx.out k hlt
      rw [hxe] at d1
      clear hxe
      by_cases hx0 : x = 0
      · subst hx0
        have HJ' := Lib.hid J
        clear J HW HJ HKx
        go_wp2
        go_roundw
        case rel => exact ⟨k + 1, q, a0, u0, f, by omega, by go_num, HJ'.out⟩
        case measure => simp [intOf]; omega
      · have hz0 : ((x : Int) == 0) = false := by simp; omega
        have HWx := Lib.hid (HW.out R G B m X cap y1 n (x : Int) K (.slice (some ⟨bY, oY, none⟩) kk cy) a0 u0 f)
        clear HW HKx
        have cl := J.last
        have fl := J.mo.frozenAt n
        have J2 := J.setM (x : Int)
        have hcap := J.capOk
        clear J
        go_upto_region 8 with fail
        clear cl fl
        have C2 := HJ.out _ J2.sa.old
        have hb0 := J2.sa.b0
        have J3 := J2.on (Below.refl _ _).drew
        have hxz : (x : Int) < (m : Int) + 1 := by omega
        have hxz2 : x < m + 1 := by omega
        generalize wr.setCell ⟨X, n, none⟩ (.int .i64 x) = V at *
        refine wp_region_takes 6 [0, 1, 2, 3, 4] [5] (fun w' => w'.cell? ⟨B, 0, none⟩ = some (.slice (some ⟨G, 0, none⟩) (m + 1) (m + 1)) ∧ w'.cell? ⟨w.heap.size, 0, none⟩ = some (.slice E nE cE) ∧ w'.cell? ⟨w.heap.size, 1, none⟩ = some (.int .i64 N) ∧ w'.cell? ⟨w.heap.size, 2, none⟩ = some (.int .i64 D) ∧ w'.cell? ⟨w.heap.size, 3, none⟩ = some (.slice L nL cL) ∧ w'.cell? ⟨w.heap.size, 4, none⟩ = some (.slice S M cS)) (by kernel_rfl) (by kernel_rfl) ⟨hb0, C2.c0, C2.c1, C2.c2, C2.c3, C2.c4⟩ ?_
        refine wpTakes_cons (v := ?_) _ at0 rfl ?_ ?_ ?_
        rotate_left 1
        · rintro W ⟨x0, x1, x2, x3, x4, x5⟩
          go_simp
          rfl
        · exact fun _ _ _ h => h
        simp only [Act.put, List.setIfInBounds_toArray, List.set_cons_zero, List.set_cons_succ]
        refine wpTakes_cons (v := ?_) _ at1 rfl ?_ ?_ ?_
        rotate_left 1
        · rintro W ⟨x0, x1, x2, x3, x4, x5⟩
          go_simp
          rfl
        · exact fun _ _ _ h => h
        simp only [Act.put, List.setIfInBounds_toArray, List.set_cons_zero, List.set_cons_succ]
        refine wpTakes_cons (v := ?_) _ at2 rfl ?_ ?_ ?_
        rotate_left 1
        · rintro W ⟨x0, x1, x2, x3, x4, x5⟩
          go_simp
          rfl
        · exact fun _ _ _ h => h
        simp only [Act.put, List.setIfInBounds_toArray, List.set_cons_zero, List.set_cons_succ]
        refine wpTakes_cons (v := ?_) _ at3 rfl ?_ ?_ ?_
        rotate_left 1
        · rintro W ⟨x0, x1, x2, x3, x4, x5⟩
          go_simp
          rfl
        · exact fun _ _ _ h => h
        simp only [Act.put, List.setIfInBounds_toArray, List.set_cons_zero, List.set_cons_succ]
        refine wpTakes_cons (v := ?_) _ at4 rfl ?_ ?_ ?_
        rotate_left 1
        · rintro W ⟨x0, x1, x2, x3, x4, x5⟩
          go_simp
          rfl
        · exact fun _ _ _ h => h
        simp only [Act.put, List.setIfInBounds_toArray, List.set_cons_zero, List.set_cons_succ]
        refine wpTakes_nil (wpCalls_cons _ at5 rfl fun K' hK' => ?_)
        go_simp
        go_at_call 112
        refine (HWx.out _ J3).mono ?_
        rintro e w7 ⟨y, rfl, J4⟩
        have C4 := HJ.out _ J4.sa.old
        refine hK'.out _ _ ⟨J4.sa.b0, C4.c0, C4.c1, C4.c2, C4.c3, C4.c4⟩ (wpCalls_nil ?_)
        clear hK' J3 J2 C2 hb0 C4 HWx
        simp only [List.drop_succ_cons, List.drop_zero]
        have e0 : w7.cell? ⟨G, x, none⟩ = some (.int .i64 (f x)) := J4.sa.wts.cell (by omega)
        have f0 := J4.sa.wts.frozen x
        have J5 := J4.setW x y
        clear J4
        go_wp2
        clear e0 f0
        have J6 := J5.setA (wrap64 (a0 + y))
        have b0 := J5.sa.b0
        have b1 := J5.sa.b1
        have e1 : (w7.setCell ⟨G, x, none⟩ (.int .i64 y)).cell? ⟨G, x, none⟩ = some (.int .i64 y) := by
          have := J5.sa.wts.cell (i := x) (by omega)
          simpa using this
        have f1 := J5.sa.bx.frozen 1
        clear J5
        generalize w7.setCell ⟨G, x, none⟩ (.int .i64 y) = V7 at *
        go_region
        all_goals
          clear b0 b1 e1 f1
          have J7 := J6.on (Below.refl _ _).drew
          have J8 := J7.setU (wrap64 (u0 + 1))
          have b2 := J7.sa.b2
          have f2 := J7.sa.bx.frozen 2
          go_wp2
          clear b2 f2
          go_roundw
          case rel => exact ⟨k + 1, x, _, _, _, by omega, by go_num, J8⟩
          case measure => simp [intOf]; omega
    · obtain rfl : k = kk := by omega
      have J' := J
      clear J HW HJ HKx
      have b0 := J'.sa.b0
      have b1 := J'.sa.b1
      have b2 := J'.sa.b2
      have r0 := J'.sa.res.cell (i := 0) (by omega)
      have r1 := J'.sa.res.cell (i := 1) (by omega)
      have r2 := J'.sa.res.cell (i := 2) (by omega)
      have g0 := J'.sa.res.frozen 0
      have g1 := J'.sa.res.frozen 1
      have g2 := J'.sa.res.frozen 2
      have hold := J'.sa.old
      have hwts := J'.sa.wts
      have q1 := J'.sa.r1
      have q2 := J'.sa.r2
      have hrr := J'.sa.res
      clear J'
      have HE := Lib.hid (res_setI hrr (.slice (some ⟨G, 0, none⟩) (m + 1) (m + 1)) a0 u0)
      clear hrr
      go_wp2
      clear b0 b1 b2 r0 r1 r2 g0 g1 g2
      have k0 := HE.out.cell (i := 0) (by omega)
      have k1 := HE.out.cell (i := 1) (by omega)
      have k2 := HE.out.cell (i := 2) (by omega)
      refine bodyPost_ret (v := .agg #[.slice (some ⟨G, 0, none⟩) (m + 1) (m + 1), .int .i64 a0, .int .i64 u0]) (by simp [results, Tryz.results82, go_sem, k0, k1, k2, bhI]) rfl ⟨G, a0, u0, f, rfl, by have := Hb.out.size; omega, ?_, ?_⟩
      · exact ((hwts.setOther (a := ⟨R, 0, none⟩) (by show G ≠ R; omega) _).setOther (a := ⟨R, 1, none⟩) (by show G ≠ R; omega) _).setOther (a := ⟨R, 2, none⟩) (by show G ≠ R; omega) _
      · have h9 := ((hold.setCell (p := ⟨R, 0, none⟩) q1 (.slice (some ⟨G, 0, none⟩) (m + 1) (m + 1))).setCell (p := ⟨R, 1, none⟩) q1 (.int .i64 a0)).setCell (p := ⟨R, 2, none⟩) q1 (.int .i64 u0)
        exact Hb.out.trans (h9.mono Hb.out.size)

end Go.Proofs.YtoejenejleocdabGreatDoor
