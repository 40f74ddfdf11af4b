import Derived.Test.YtoejenejleocdabGreatDoorJc
import Derived.Test.YtoejenejleocdabGreatDoorJg
import Derived.Test.YtoejenejleocdabGreatDoorJh
/- Of whatever bits: Ones, Noughts, and a group's having and half answer something. -/
namespace Go.Proofs.YtoejenejleocdabGreatDoor
open Go.RowKit
attribute [local irreducible] Bt.pop Bt.popF

/-- a number of 64 bits -/
def Ir (x : Int) : Prop := -9223372036854775808 ≤ x ∧ x ≤ 9223372036854775807
theorem ir_wrap (x : Int) : Ir (IntKind.i64.wrap x) := by unfold Ir; rw [IntKind.wrap_i64]; omega
theorem ir_wrap64 (x : Int) : Ir (wrap64 x) := by unfold Ir wrap64; omega
/-- a call that hands back some number -/
def SomeI (w : World) (e : Ending) (w' : World) : Prop := ∃ x : Int, e = .returned (.int .i64 x) ∧ Ir x ∧ Below w.heap.size w w'

/-- whatever bits -/
structure RB3 (w : World) (n : Int) (A1 : Option Addr) (np : Nat) (A2 : Option Addr) (na : Nat) : Prop where
  ir : Ir n
  parts : ∃ P : Nat → Nat, (∀ k, P k < 18446744073709551616) ∧ Row w w.heap.size A1 np (fun k => .int .u64 (P k))
  ahead : ∃ a : Nat → Int, Row w w.heap.size A2 na (fun k => .int .i64 (a k))
theorem RB3.on {w w' : World} {n : Int} {A1 : Option Addr} {np : Nat} {A2 : Option Addr} {na : Nat} (h : RB3 w n A1 np A2 na) (hb : Below w.heap.size w w') : RB3 w' n A1 np A2 na := by
  obtain ⟨P, h1, h2⟩ := h.parts
  obtain ⟨a, h3⟩ := h.ahead
  exact ⟨h.ir, ⟨P, h1, (h2.below hb).more hb.size⟩, ⟨a, (h3.below hb).more hb.size⟩⟩

set_option maxHeartbeats 1000000 in
theorem ones_short (n i : Int) (A : Option Addr) (np cp : Nat) (A2 : Option Addr) (na ca : Nat) (w : World) (hn2 : n ≤ 9223372036854775807) (hs : np ≤ near n i / 64 ∨ na ≤ near n i / 64) :
    Calls Tryz.prog 213 #[.agg #[.int .i64 n, .slice A np cp, .slice A2 na ca], .int .i64 i] w fun e w' => e = .returned (.int .i64 0) ∧ Below w.heap.size w w' := by
  have hj := near_cast n i
  have hj2 : near n i ≤ 9223372036854775807 := by unfold near; omega
  generalize near n i = j at *
  have H := Lib.hid hj
  clear hj
  by_cases h1 : np ≤ j / 64
  · have z1 : (np : Int) ≤ (j : Int) / 64 := by omega
    go_enter Tryz.func213, Tryz.ntmps213
    go_wp2_with fail
    refine (within_any _ _ _ _ _ _ _ _ _).mono ?_
    rintro e w1 ⟨rfl, hb1⟩
    rw [H.out]
    simp only [World.size_alloc] at hb1
    have k1 : w1.cell? ⟨w.heap.size, 0, none⟩ = some (.int .i64 n) := by rw [bcell hb1 _ _ (by omega)]; simp
    have k2 : w1.cell? ⟨w.heap.size, 1, none⟩ = some (.slice A np cp) := by rw [bcell hb1 _ _ (by omega)]; simp
    have k3 : w1.cell? ⟨w.heap.size, 2, none⟩ = some (.slice A2 na ca) := by rw [bcell hb1 _ _ (by omega)]; simp
    go_wp2
    go_ret
    exact ⟨rfl, ((Below.refl _ _).alloc (Nat.le_refl _) _).trans (hb1.mono (by omega))⟩
  · have z1 : ¬ ((np : Int) ≤ (j : Int) / 64) := by omega
    have z2 : (na : Int) ≤ (j : Int) / 64 := by omega
    go_enter Tryz.func213, Tryz.ntmps213
    go_wp2_with fail
    refine (within_any _ _ _ _ _ _ _ _ _).mono ?_
    rintro e w1 ⟨rfl, hb1⟩
    rw [H.out]
    simp only [World.size_alloc] at hb1
    have k1 : w1.cell? ⟨w.heap.size, 0, none⟩ = some (.int .i64 n) := by rw [bcell hb1 _ _ (by omega)]; simp
    have k2 : w1.cell? ⟨w.heap.size, 1, none⟩ = some (.slice A np cp) := by rw [bcell hb1 _ _ (by omega)]; simp
    have k3 : w1.cell? ⟨w.heap.size, 2, none⟩ = some (.slice A2 na ca) := by rw [bcell hb1 _ _ (by omega)]; simp
    go_wp2
    go_ret
    exact ⟨rfl, ((Below.refl _ _).alloc (Nat.le_refl _) _).trans (hb1.mono (by omega))⟩
theorem ones_raw (n i : Int) (A : Option Addr) (np cp : Nat) (A2 : Option Addr) (na ca : Nat) (w : World) (h : RB3 w n A np A2 na) :
    Calls Tryz.prog 213 #[.agg #[.int .i64 n, .slice A np cp, .slice A2 na ca], .int .i64 i] w (SomeI w) := by
  have hn := h.ir.2
  by_cases hs : np ≤ near n i / 64 ∨ na ≤ near n i / 64
  · exact (ones_short n i A np cp A2 na ca w hn hs).mono fun e w' hh => ⟨0, hh.1, by unfold Ir; omega, hh.2⟩
  · obtain ⟨P, h1, h2⟩ := h.parts
    obtain ⟨a, h3⟩ := h.ahead
    exact (ones_in n i A np cp A2 na ca w P a h2 h1 h3 hn (by omega) (by omega)).mono fun e w' hh => ⟨_, hh.1, ir_wrap64 _, hh.2⟩

set_option maxHeartbeats 1000000 in
theorem noughts_raw (n i : Int) (A : Option Addr) (np cp : Nat) (A2 : Option Addr) (na ca : Nat) (w : World) (h : RB3 w n A np A2 na) :
    Calls Tryz.prog 214 #[.agg #[.int .i64 n, .slice A np cp, .slice A2 na ca], .int .i64 i] w (SomeI w) := by
  have HI : Hid (∀ W, Below w.heap.size w W → RB3 W n A np A2 na) := Lib.hid fun W hW => h.on hW
  have HO := Lib.hid (fun W (hW : RB3 W n A np A2 na) => ones_raw n i A np cp A2 na ca W hW)
  clear h
  go_enter Tryz.func214, Tryz.ntmps214
  go_wp2_with fail
  go_region_with (first
    | (go_at_call 222; refine (within_any _ _ _ _ _ _ _ _ _).mono ?_; rintro e w1 ⟨rfl, hb1⟩; obtain ⟨k1, k2, k3, hb2, _⟩ := box3 hb1; clear hb1)
    | (go_at_call 213; refine (HO.out _ (HI.out _ hb2)).mono ?_; rintro e w2 ⟨y, rfl, hy, hb3⟩))
  all_goals
    go_wp2
    go_ret
    exact ⟨_, rfl, by first | exact ir_wrap _ | exact ir_wrap64 _, hb2.trans (hb3.mono hb2.size)⟩

/-- a group and whatever bits in two blocks of a function's own -/
structure HR (w : World) (F T n : Int) (A1 : Option Addr) (np c1 : Nat) (A2 : Option Addr) (na c2 : Nat) (W : World) : Prop where
  g0 : W.cell? ⟨w.heap.size, 0, none⟩ = some (.int .i64 F)
  g1 : W.cell? ⟨w.heap.size, 1, none⟩ = some (.int .i64 T)
  b0 : W.cell? ⟨w.heap.size + 1, 0, none⟩ = some (.int .i64 n)
  b1 : W.cell? ⟨w.heap.size + 1, 1, none⟩ = some (.slice A1 np c1)
  b2 : W.cell? ⟨w.heap.size + 1, 2, none⟩ = some (.slice A2 na c2)
  raw : RB3 W n A1 np A2 na
  old : Below w.heap.size w W
  big : w.heap.size + 2 ≤ W.heap.size
section
variable {w : World} {F T n : Int} {A1 A2 : Option Addr} {np c1 na c2 : Nat} {W W' : World}
theorem HR.on (h : HR w F T n A1 np c1 A2 na c2 W) (hb : Below W.heap.size W W') : HR w F T n A1 np c1 A2 na c2 W' := by
  have := h.big
  exact ⟨(hb.cell (p := ⟨w.heap.size, 0, none⟩) (by simp; omega)).trans h.g0, (hb.cell (p := ⟨w.heap.size, 1, none⟩) (by simp; omega)).trans h.g1,
    (hb.cell (p := ⟨w.heap.size + 1, 0, none⟩) (by simp; omega)).trans h.b0, (hb.cell (p := ⟨w.heap.size + 1, 1, none⟩) (by simp; omega)).trans h.b1, (hb.cell (p := ⟨w.heap.size + 1, 2, none⟩) (by simp; omega)).trans h.b2,
    h.raw.on hb, h.old.trans (hb.mono h.old.size), Nat.le_trans h.big hb.size⟩
theorem HR.drew (h : HR w F T n A1 np c1 A2 na c2 W) : HR w F T n A1 np c1 A2 na c2 W.drew := h.on (Below.refl _ _).drew
theorem HR.start (hI : RB3 w n A1 np A2 na) (t t' : TypeId) : HR w F T n A1 np c1 A2 na c2 ((w.alloc (.cells #[.int .i64 F, .int .i64 T] t)).alloc (.cells #[.int .i64 n, .slice A1 np c1, .slice A2 na c2] t')) :=
  ⟨by simp, by simp, by simp, by simp, by simp, (hI.on ((Below.refl _ _).alloc (Nat.le_refl _) _)).on ((Below.refl _ _).alloc (Nat.le_refl _) _), ((Below.refl _ _).alloc (Nat.le_refl _) _).alloc (by simp) _, by simp⟩
end

set_option maxHeartbeats 1000000 in
theorem having_rawone (F T first n : Int) (A1 A2 : Option Addr) (np c1 na c2 : Nat) (w : World) (hI : RB3 w n A1 np A2 na) :
    Calls Tryz.prog 198 #[.agg #[.int .i64 F, .int .i64 T], .agg #[.int .i64 n, .slice A1 np c1, .slice A2 na c2], .bool true, .int .i64 first] w (SomeI w) := by
  have J0 : HR w F T n A1 np c1 A2 na c2 _ := HR.start hI 210 100
  have HO : Hid (∀ W i, HR w F T n A1 np c1 A2 na c2 W → Calls Tryz.prog 213 #[.agg #[.int .i64 n, .slice A1 np c1, .slice A2 na c2], .int .i64 i] W fun e w' => ∃ x : Int, e = .returned (.int .i64 x) ∧ HR w F T n A1 np c1 A2 na c2 w') := Lib.hid fun W i h => (ones_raw n i A1 np c1 A2 na c2 W h.raw).mono fun e w' ⟨x, h1, _, h3⟩ => ⟨x, h1, h.on h3⟩
  clear hI
  go_enter Tryz.func198, Tryz.ntmps198
  go_wp2_with fail
  generalize hW : ((w.alloc _).alloc _) = W1 at J0 ⊢
  clear hW
  obtain ⟨j0, j1, j2, j3, j4⟩ : _ ∧ _ ∧ _ ∧ _ ∧ _ := ⟨J0.g0, J0.g1, J0.b0, J0.b1, J0.b2⟩
  have J1 := J0.drew
  go_region_held3 (fun w' => w'.cell? ⟨w.heap.size, 0, none⟩ = some (.int .i64 F) ∧ w'.cell? ⟨w.heap.size + 1, 0, none⟩ = some (.int .i64 n) ∧ w'.cell? ⟨w.heap.size + 1, 1, none⟩ = some (.slice A1 np c1) ∧ w'.cell? ⟨w.heap.size + 1, 2, none⟩ = some (.slice A2 na c2)) (first | exact ⟨j0, j2, j3, j4⟩ | go_keep)
    (first
      | (go_at_call 213; refine (HO.out _ _ ?_).mono ?_; (first | assumption | exact J1); rintro e w3 ⟨y, rfl, J3⟩; have k0 := J3.g0; have k2 := J3.b0; have k3 := J3.b1; have k4 := J3.b2))
  have hold := J3.old
  go_wp2
  go_ret
  exact ⟨_, rfl, by first | exact ir_wrap _ | exact ir_wrap64 _, hold⟩

set_option maxHeartbeats 1000000 in
theorem having_rawnought (F T first n : Int) (A1 A2 : Option Addr) (np c1 na c2 : Nat) (w : World) (hI : RB3 w n A1 np A2 na) :
    Calls Tryz.prog 198 #[.agg #[.int .i64 F, .int .i64 T], .agg #[.int .i64 n, .slice A1 np c1, .slice A2 na c2], .bool false, .int .i64 first] w (SomeI w) := by
  have J0 : HR w F T n A1 np c1 A2 na c2 _ := HR.start hI 210 100
  have HO : Hid (∀ W i, HR w F T n A1 np c1 A2 na c2 W → Calls Tryz.prog 214 #[.agg #[.int .i64 n, .slice A1 np c1, .slice A2 na c2], .int .i64 i] W fun e w' => ∃ x : Int, e = .returned (.int .i64 x) ∧ HR w F T n A1 np c1 A2 na c2 w') := Lib.hid fun W i h => (noughts_raw n i A1 np c1 A2 na c2 W h.raw).mono fun e w' ⟨x, h1, _, h3⟩ => ⟨x, h1, h.on h3⟩
  clear hI
  go_enter Tryz.func198, Tryz.ntmps198
  go_wp2_with fail
  generalize hW : ((w.alloc _).alloc _) = W1 at J0 ⊢
  clear hW
  obtain ⟨j0, j1, j2, j3, j4⟩ : _ ∧ _ ∧ _ ∧ _ ∧ _ := ⟨J0.g0, J0.g1, J0.b0, J0.b1, J0.b2⟩
  have J1 := J0.drew
  go_region_held3 (fun w' => w'.cell? ⟨w.heap.size, 0, none⟩ = some (.int .i64 F) ∧ w'.cell? ⟨w.heap.size + 1, 0, none⟩ = some (.int .i64 n) ∧ w'.cell? ⟨w.heap.size + 1, 1, none⟩ = some (.slice A1 np c1) ∧ w'.cell? ⟨w.heap.size + 1, 2, none⟩ = some (.slice A2 na c2)) (first | exact ⟨j0, j2, j3, j4⟩ | go_keep)
    (first
      | (go_at_call 214; refine (HO.out _ _ ?_).mono ?_; (first | assumption | exact J1); rintro e w3 ⟨y, rfl, J3⟩; have k0 := J3.g0; have k2 := J3.b0; have k3 := J3.b1; have k4 := J3.b2))
  have hold := J3.old
  go_wp2
  go_ret
  exact ⟨_, rfl, by first | exact ir_wrap _ | exact ir_wrap64 _, hold⟩
theorem having_raw (F T first n : Int) (one : Bool) (A1 A2 : Option Addr) (np c1 na c2 : Nat) (w : World) (hI : RB3 w n A1 np A2 na) :
    Calls Tryz.prog 198 #[.agg #[.int .i64 F, .int .i64 T], .agg #[.int .i64 n, .slice A1 np c1, .slice A2 na c2], .bool one, .int .i64 first] w (SomeI w) := by
  cases one
  · exact having_rawnought F T first n A1 A2 np c1 na c2 w hI
  · exact having_rawone F T first n A1 A2 np c1 na c2 w hI

/-- a call that hands back some group -/
def SomeG (w : World) (e : Ending) (w' : World) : Prop := ∃ x y : Int, e = .returned (.agg #[.int .i64 x, .int .i64 y]) ∧ Ir x ∧ Ir y ∧ Below w.heap.size w w'
/-- three blocks -/
structure HQ3 (w : World) (F T n : Int) (A1 : Option Addr) (np c1 : Nat) (A2 : Option Addr) (na c2 : Nat) (W : World) : Prop where
  hb : HR w F T n A1 np c1 A2 na c2 W
  res : W.rowIs (w.heap.size + 2) 210 2 (fun _ => .int .i64 0)
theorem HQ3.on {w : World} {F T n : Int} {A1 A2 : Option Addr} {np c1 na c2 : Nat} {W W' : World} (h : HQ3 w F T n A1 np c1 A2 na c2 W) (hb : Below W.heap.size W W') : HQ3 w F T n A1 np c1 A2 na c2 W' :=
  ⟨h.hb.on hb, h.res.of_block (hb.block _ h.res.lt)⟩
theorem HQ3.drew {w : World} {F T n : Int} {A1 A2 : Option Addr} {np c1 na c2 : Nat} {W : World} (h : HQ3 w F T n A1 np c1 A2 na c2 W) : HQ3 w F T n A1 np c1 A2 na c2 W.drew := h.on (Below.refl _ _).drew

set_option maxHeartbeats 1000000 in
theorem half_raw (F T n : Int) (one : Bool) (A1 A2 : Option Addr) (np c1 na c2 : Nat) (w : World) (hF : Ir F) (hT : Ir T) (hI : RB3 w n A1 np A2 na) :
    Calls Tryz.prog 197 #[.agg #[.int .i64 F, .int .i64 T], .agg #[.int .i64 n, .slice A1 np c1, .slice A2 na c2], .bool one] w (SomeG w) := by
  have JB : HR w F T n A1 np c1 A2 na c2 _ := HR.start hI 210 100
  have J0 : HQ3 w F T n A1 np c1 A2 na c2 _ := ⟨JB.on ((Below.refl _ _).alloc (Nat.le_refl _) (.cells #[.int .i64 0, .int .i64 0] 210)), by
    have h := World.rowIs_alloc ((w.alloc (.cells #[.int .i64 F, .int .i64 T] 210)).alloc (.cells #[.int .i64 n, .slice A1 np c1, .slice A2 na c2] 100)) #[.int .i64 0, .int .i64 0] 210 (fun _ => .int .i64 0) (fun i hi => by
      match i, hi with
      | 0, _ => rfl
      | 1, _ => rfl)
    rw [World.size_alloc, World.size_alloc] at h
    exact h⟩
  clear JB
  have HO : Hid (∀ W i, HQ3 w F T n A1 np c1 A2 na c2 W → Calls Tryz.prog 198 #[.agg #[.int .i64 F, .int .i64 T], .agg #[.int .i64 n, .slice A1 np c1, .slice A2 na c2], .bool false, .int .i64 i] W fun e w' => ∃ x : Int, e = .returned (.int .i64 x) ∧ HQ3 w F T n A1 np c1 A2 na c2 w') := Lib.hid fun W i h => (having_rawnought F T i n A1 A2 np c1 na c2 W h.hb.raw).mono fun e w' ⟨x, h1, _, h3⟩ => ⟨x, h1, h.on h3⟩
  have HF := Lib.hid hF
  have HT := Lib.hid hT
  clear hI hF hT
  go_enter Tryz.func197, Tryz.ntmps197
  go_wp2_with fail
  generalize hW : (((w.alloc _).alloc _).alloc _) = W1 at J0 ⊢
  clear hW
  obtain ⟨j0, j1, j2, j3, j4⟩ : _ ∧ _ ∧ _ ∧ _ ∧ _ := ⟨J0.hb.g0, J0.hb.g1, J0.hb.b0, J0.hb.b1, J0.hb.b2⟩
  have J1 := J0.drew
  go_region_held3 (fun w' => w'.cell? ⟨w.heap.size, 0, none⟩ = some (.int .i64 F) ∧ w'.cell? ⟨w.heap.size, 1, none⟩ = some (.int .i64 T) ∧ w'.cell? ⟨w.heap.size + 1, 0, none⟩ = some (.int .i64 n) ∧ w'.cell? ⟨w.heap.size + 1, 1, none⟩ = some (.slice A1 np c1) ∧ w'.cell? ⟨w.heap.size + 1, 2, none⟩ = some (.slice A2 na c2)) (first | exact ⟨j0, j1, j2, j3, j4⟩ | go_keep)
    (first
      | (go_at_call 198; refine (HO.out _ _ ?_).mono ?_; (first | assumption | exact J1); rintro e w3 ⟨y, rfl, J3⟩; have k0 := J3.hb.g0; have k1 := J3.hb.g1; have k2 := J3.hb.b0; have k3 := J3.hb.b1; have k4 := J3.hb.b2))
  have HM := Lib.hid (ir_wrap (F + y))
  generalize IntKind.i64.wrap (F + y) = M at *
  have hold := J3.hb.old
  have r0 : w3.cell? ⟨w.heap.size + 2, 0, none⟩ = some (.int .i64 0) := J3.res.cell (by omega)
  have r1 : w3.cell? ⟨w.heap.size + 2, 1, none⟩ = some (.int .i64 0) := J3.res.cell (by omega)
  have f0 := J3.res.frozen 0
  have f1 := J3.res.frozen 1
  have HS := Lib.hid (fun v0 v1 => set2 J3.res v0 v1)
  have HQ : Hid (∀ v0 v1, Below w.heap.size w ((w3.setCell ⟨w.heap.size + 2, 0, none⟩ v0).setCell ⟨w.heap.size + 2, 1, none⟩ v1)) := Lib.hid fun v0 v1 => (hold.setCell (by show w.heap.size ≤ w.heap.size + 2; omega) _).setCell (by show w.heap.size ≤ w.heap.size + 2; omega) _
  cases one
  · go_wp2
    obtain ⟨s0, s1⟩ := HS.out (.int .i64 F) (.int .i64 M)
    refine bodyPost_ret (v := .agg #[.int .i64 F, .int .i64 M]) (by simp [results, Tryz.results197, go_sem, s0, s1]) rfl ⟨F, M, rfl, HF.out, HM.out, HQ.out _ _⟩
  · go_wp2
    obtain ⟨s0, s1⟩ := HS.out (.int .i64 M) (.int .i64 T)
    refine bodyPost_ret (v := .agg #[.int .i64 M, .int .i64 T]) (by simp [results, Tryz.results197, go_sem, s0, s1]) rfl ⟨M, T, rfl, HM.out, HT.out, HQ.out _ _⟩

end Go.Proofs.YtoejenejleocdabGreatDoor

/- Of whatever wave: Count answers something. -/
namespace Go.Proofs.YtoejenejleocdabGreatDoor
open Go.RowKit
attribute [local irreducible] Bt.pop Bt.popF

/-- whatever levels -/
structure RLv (w : World) (A : Option Addr) (n : Nat) (f : Nat → Int) (a1 : Nat → Option Addr) (m1 k1 : Nat → Nat) (a2 : Nat → Option Addr) (m2 k2 : Nat → Nat) : Prop where
  row : Row3 w w.heap.size A n (fun k => .int .i64 (f k)) (fun k => .slice (a1 k) (m1 k) (k1 k)) (fun k => .slice (a2 k) (m2 k) (k2 k))
  each : ∀ k, k < n → RB3 w (f k) (a1 k) (m1 k) (a2 k) (m2 k)
  small : n < 4611686018427387904
theorem RLv.on {w w' : World} {A : Option Addr} {n : Nat} {f : Nat → Int} {a1 : Nat → Option Addr} {m1 k1 : Nat → Nat} {a2 : Nat → Option Addr} {m2 k2 : Nat → Nat} (h : RLv w A n f a1 m1 k1 a2 m2 k2) (hb : Below w.heap.size w w') : RLv w' A n f a1 m1 k1 a2 m2 k2 :=
  ⟨h.row.on hb, fun k hk => (h.each k hk).on hb, h.small⟩

/-- two cells of a group -/
def grpI (F T : Int) : Nat → Value := fun j => if j = 0 then .int .i64 F else .int .i64 T
/-- a group in block G, bits in block K, both of the call's own -/
structure GB (w : World) (G K : Nat) (F T n : Int) (A1 : Option Addr) (np c1 : Nat) (A2 : Option Addr) (na c2 : Nat) (W : World) : Prop where
  grp : W.rowIs G 210 2 (grpI F T)
  b0 : W.cell? ⟨K, 0, none⟩ = some (.int .i64 n)
  b1 : W.cell? ⟨K, 1, none⟩ = some (.slice A1 np c1)
  b2 : W.cell? ⟨K, 2, none⟩ = some (.slice A2 na c2)
  raw : RB3 W n A1 np A2 na
  old : Below w.heap.size w W
  ltK : K < W.heap.size
  own : w.heap.size ≤ G
  iF : Ir F
  iT : Ir T
section
variable {w : World} {G K : Nat} {F T n : Int} {A1 A2 : Option Addr} {np c1 na c2 : Nat} {W W' : World}
theorem GB.on (h : GB w G K F T n A1 np c1 A2 na c2 W) (hb : Below W.heap.size W W') : GB w G K F T n A1 np c1 A2 na c2 W' :=
  ⟨h.grp.of_block (hb.block _ h.grp.lt), (hb.cell (p := ⟨K, 0, none⟩) h.ltK).trans h.b0, (hb.cell (p := ⟨K, 1, none⟩) h.ltK).trans h.b1, (hb.cell (p := ⟨K, 2, none⟩) h.ltK).trans h.b2, h.raw.on hb,
    h.old.trans (hb.mono h.old.size), Nat.lt_of_lt_of_le h.ltK hb.size, h.own, h.iF, h.iT⟩
theorem GB.drew (h : GB w G K F T n A1 np c1 A2 na c2 W) : GB w G K F T n A1 np c1 A2 na c2 W.drew := h.on (Below.refl _ _).drew
theorem GB.g0 (h : GB w G K F T n A1 np c1 A2 na c2 W) : W.cell? ⟨G, 0, none⟩ = some (.int .i64 F) := h.grp.cell (i := 0) (by omega)
theorem GB.g1 (h : GB w G K F T n A1 np c1 A2 na c2 W) : W.cell? ⟨G, 1, none⟩ = some (.int .i64 T) := h.grp.cell (i := 1) (by omega)
theorem GB.store (h : GB w G K F T n A1 np c1 A2 na c2 W) (F' T' : Int) : ((W.setCell ⟨G, 0, none⟩ (.int .i64 F')).setCell ⟨G, 1, none⟩ (.int .i64 T')).rowIs G 210 2 (grpI F' T') ∧ Below w.heap.size w ((W.setCell ⟨G, 0, none⟩ (.int .i64 F')).setCell ⟨G, 1, none⟩ (.int .i64 T')) := by
  refine ⟨((h.grp.set 0 _).set 1 _).congr (fun i hi => ?_), (h.old.setCell h.own _).setCell h.own _⟩
  match i, hi with
  | 0, _ => rfl
  | 1, _ => rfl
end

theorem shape_yes {D N : Int} {n : Nat} {f : Nat → Int} (h : shapeOk D n N f = true) : 1 ≤ D ∧ D ≤ 16 ∧ (n : Int) = D := by
  unfold shapeOk at h
  simp only [Bool.and_eq_true, decide_eq_true_eq] at h
  obtain ⟨h1, h2, _⟩ := h
  unfold deepOk at h1
  simp at h1
  omega

set_option maxHeartbeats 4000000 in
theorem wcount_raw (N D : Int) (A : Option Addr) (nl c : Nat) (f : Nat → Int) (a1 : Nat → Option Addr) (m1 k1 : Nat → Nat) (a2 : Nat → Option Addr) (m2 k2 : Nat → Nat) (n i : Int) (w : World) (h : RLv w A nl f a1 m1 k1 a2 m2 k2) (hN : Ir N) (hi : Ir i) :
    Calls Tryz.prog 159 #[.agg #[.int .i64 N, .int .i64 D, .slice A nl c], .int .i64 n, .int .i64 i] w (SomeI w) := by
  have hb0 : Below w.heap.size w (w.alloc (.cells #[.int .i64 N, .int .i64 D, .slice A nl c] 31)) := (Below.refl _ _).alloc (Nat.le_refl _) _
  obtain ⟨wB, hwB⟩ : ∃ wB, wB = w.alloc (.cells #[.int .i64 N, .int .i64 D, .slice A nl c] 31) := ⟨_, rfl⟩
  rw [← hwB] at hb0
  have hL := h.on hb0
  have HS := Lib.hid (isShaped_any N D A nl c f a1 a2 m1 k1 m2 k2 wB hL.row h.small)
  have HB1 : Hid (∀ W, Below wB.heap.size wB W → W.cell? ⟨w.heap.size, 0, none⟩ = some (.int .i64 N) ∧ W.cell? ⟨w.heap.size, 1, none⟩ = some (.int .i64 D) ∧ W.cell? ⟨w.heap.size, 2, none⟩ = some (.slice A nl c)) := Lib.hid fun W hW => by
    have hs : w.heap.size < wB.heap.size := by rw [hwB]; simp
    refine ⟨(hW.cell (p := ⟨w.heap.size, 0, none⟩) hs).trans ?_, (hW.cell (p := ⟨w.heap.size, 1, none⟩) hs).trans ?_, (hW.cell (p := ⟨w.heap.size, 2, none⟩) hs).trans ?_⟩ <;> rw [hwB] <;> simp
  have HWB := Lib.hid hwB
  have HLv : Hid (∀ W, Below wB.heap.size wB W → RLv W A nl f a1 m1 k1 a2 m2 k2) := Lib.hid fun W hW => hL.on hW
  have Hb0 := Lib.hid hb0
  have hbs := hb0.size
  clear h hL hwB hb0
  cases hsh : shapeOk D nl N f with
  | false =>
    rw [hsh] at HS
    clear hsh HLv
    go_enter Tryz.func159, Tryz.ntmps159
    go_wp2_with fail
    rw [← HWB.out]
    with_reducible refine HS.out.mono ?_
    rintro e w1 ⟨rfl, hb1⟩
    have hold := Hb0.out.trans (hb1.mono Hb0.out.size)
    clear HS hb1
    go_wp2
    go_ret
    exact ⟨0, rfl, by unfold Ir; omega, hold⟩
  | true =>
    rw [hsh] at HS
    obtain ⟨d1, d16, hnd⟩ := shape_yes hsh
    clear hsh
    obtain ⟨d, rfl⟩ := Int.eq_ofNat_of_zero_le (show 0 ≤ D by omega)
    obtain rfl : nl = d := by omega
    have h16 : nl ≤ 16 := by omega
    have hp2 := wrap_pow nl h16
    have hpos := pow_pos2 nl
    clear hnd
    by_cases h0 : n < 0
    · clear HLv hp2 hpos
      go_enter Tryz.func159, Tryz.ntmps159
      go_wp2_with fail
      rw [← HWB.out]
      with_reducible refine HS.out.mono ?_
      rintro e w1 ⟨rfl, hb1⟩
      have hold := Hb0.out.trans (hb1.mono Hb0.out.size)
      clear HS hb1
      go_wp2
      go_ret
      exact ⟨0, rfl, by unfold Ir; omega, hold⟩
    · by_cases hbig : (2 : Int) ^ nl ≤ n
      · have h1 : wrap64 (2 ^ nl) ≤ n := by rw [hp2]; exact hbig
        clear HLv hp2 hpos hbig
        go_enter Tryz.func159, Tryz.ntmps159
        go_wp2_with fail
        rw [← HWB.out]
        with_reducible refine HS.out.mono ?_
        rintro e w1 ⟨rfl, hb1⟩
        have c2 := (HB1.out w1 hb1).2.1
        have hold := Hb0.out.trans (hb1.mono Hb0.out.size)
        clear HS hb1
        go_wp2
        go_ret
        exact ⟨0, rfl, by unfold Ir; omega, hold⟩
      · obtain ⟨x, rfl⟩ := Int.eq_ofNat_of_zero_le (show 0 ≤ n by omega)
        have h1 : ¬ (wrap64 (2 ^ nl) ≤ (x : Int)) := by rw [hp2]; exact hbig
        have hx63 : x < 9223372036854775808 := by
          have : (2 : Int) ^ nl ≤ 2 ^ 16 := by
            have h3 : (2 : Nat) ^ nl ≤ 2 ^ 16 := Nat.pow_le_pow_right (by omega) h16
            have h4 : ((2 ^ nl : Nat) : Int) ≤ ((2 ^ 16 : Nat) : Int) := by exact_mod_cast h3
            simpa using h4
          have e16 : (2 : Int) ^ 16 = 65536 := by decide
          omega
        clear hp2 hpos hbig
        have HW := Lib.hid (fun W => whole_any N (nl : Int) A nl c W)
        go_enter Tryz.func159, Tryz.ntmps159
        go_wp2_with fail
        rw [← HWB.out]
        with_reducible refine HS.out.mono ?_
        rintro e w1 ⟨rfl, hb1⟩
        obtain ⟨y0, y1, y2⟩ := HB1.out w1 hb1
        clear HS
        go_wp2_with fail
        with_reducible refine (HW.out _).mono ?_
        rintro e w2 ⟨rfl, hb2⟩
        have hb3 := hb1.trans (hb2.mono hb1.size)
        clear HW hb2 y0 y1 y2 h1
        have hG : (w2.alloc (.cells #[.int .i64 0, .int .i64 N] 210)).rowIs w2.heap.size 210 2 (grpI 0 N) := World.rowIs_alloc w2 #[.int .i64 0, .int .i64 N] 210 (grpI 0 N) (fun i hi => by
          match i, hi with
          | 0, _ => rfl
          | 1, _ => rfl)
        have hb4 := hb3.alloc hb3.size (.cells #[.int .i64 0, .int .i64 N] 210)
        obtain ⟨y0, y1, y2⟩ := HB1.out _ hb4
        go_wp2
        clear y0 y1 y2
        go_loopw [8, 32] (fun s8 t W => ∃ (k : Nat) (a F T : Int), k ≤ nl ∧ t = .int .i64 k ∧ s8 = .int .i64 a ∧ Ir a ∧ Ir F ∧ Ir T ∧ W.rowIs w2.heap.size 210 2 (grpI F T) ∧ Below wB.heap.size wB W) (fun _ t _ => nl - (intOf t).toNat)
        case atStart => exact ⟨0, i, 0, N, Nat.zero_le _, rfl, rfl, hi, by unfold Ir; omega, hN, hG, hb4⟩
        case round =>
          obtain ⟨k, a, F, T, hk, rfl, rfl, ia, iF, iT, hG1, hbW⟩ := hrel
          clear hG hb4
          generalize wr = V at *
          by_cases hlt : k < nl
          · have hlz : (k : Int) < (nl : Int) := by omega
            have hR := HLv.out V hbW
            obtain ⟨b, o, rfl, hbV, hc⟩ := hR.row (by omega)
            obtain ⟨q1, q2, q3⟩ := hc k hlt
            dsimp only at q1 q2 q3
            have HO := Lib.hid (fun W => hasOne_any x nl k W hx63 h16 hlt)
            have hoV := hb3.size
            have J0 : GB wB w2.heap.size V.heap.size F T (f k) (a1 k) (m1 k) (k1 k) (a2 k) (m2 k) (k2 k) (V.alloc (.cells #[.int .i64 (f k), .slice (a1 k) (m1 k) (k1 k), .slice (a2 k) (m2 k) (k2 k)] 100)) :=
              ⟨hG1.alloc _, by simp, by simp, by simp, (hR.each k hlt).on ((Below.refl _ _).alloc (Nat.le_refl _) _), hbW.alloc hbW.size _, by simp, hoV, iF, iT⟩
            have hG2 : w2.heap.size < V.heap.size := hG1.lt
            clear hR hc hG1 ia iF iT
            generalize f k = n0 at *
            generalize a1 k = A1 at *
            generalize m1 k = np at *
            generalize k1 k = c1 at *
            generalize a2 k = A2 at *
            generalize m2 k = na at *
            generalize k2 k = c2 at *
            generalize Wv.bit (nl - 1 - k) x = one at *
            have HH : Hid (∀ W, GB wB w2.heap.size V.heap.size F T n0 A1 np c1 A2 na c2 W → Calls Tryz.prog 197 #[.agg #[.int .i64 F, .int .i64 T], .agg #[.int .i64 n0, .slice A1 np c1, .slice A2 na c2], .bool one] W fun e w' => ∃ F' T', e = .returned (.agg #[.int .i64 F', .int .i64 T']) ∧ Ir F' ∧ Ir T' ∧ GB wB w2.heap.size V.heap.size F T n0 A1 np c1 A2 na c2 w') := Lib.hid fun W hW => (half_raw F T n0 one A1 A2 np c1 na c2 W hW.iF hW.iT hW.raw).mono fun e w' ⟨F', T', e1, e2, e3, e4⟩ => ⟨F', T', e1, e2, e3, hW.on e4⟩
            have HV : Hid (∀ W, GB wB w2.heap.size V.heap.size F T n0 A1 np c1 A2 na c2 W → Calls Tryz.prog 198 #[.agg #[.int .i64 F, .int .i64 T], .agg #[.int .i64 n0, .slice A1 np c1, .slice A2 na c2], .bool one, .int .i64 a] W fun e w' => ∃ a', e = .returned (.int .i64 a') ∧ Ir a' ∧ GB wB w2.heap.size V.heap.size F T n0 A1 np c1 A2 na c2 w') := Lib.hid fun W hW => (having_raw F T a n0 one A1 A2 np c1 na c2 W hW.raw).mono fun e w' ⟨a', e1, e2, e3⟩ => ⟨a', e1, e2, hW.on e3⟩
            have z1 := (HB1.out _ J0.old).2.1
            have z2 : V.cell? ⟨w.heap.size, 1, none⟩ = some (.int .i64 nl) := (HB1.out V hbW).2.1
            have z3 : w.heap.size < V.heap.size := by have := hbW.size; have := Hb0.out; omega
            go_wp2_with fail
            with_reducible refine (HO.out _).mono ?_
            rintro e w3 ⟨rfl, rfl⟩
            clear HO z1 q1 q2 q3
            generalize V.alloc (.cells #[.int .i64 n0, .slice A1 np c1, .slice A2 na c2] 100) = V1 at *
            have J2 := J0.drew
            go_upto_region 8 with fail
            refine wp_region_takes 9 [0, 1, 2, 4, 5, 6, 7] [3, 8] (fun w' => w'.cell? ⟨w2.heap.size, 0, none⟩ = some (.int .i64 F) ∧ w'.cell? ⟨w2.heap.size, 1, none⟩ = some (.int .i64 T) ∧ w'.cell? ⟨V.heap.size, 0, none⟩ = some (.int .i64 n0) ∧ w'.cell? ⟨V.heap.size, 1, none⟩ = some (.slice A1 np c1) ∧ w'.cell? ⟨V.heap.size, 2, none⟩ = some (.slice A2 na c2)) (by kernel_rfl) (by kernel_rfl) ⟨J2.g0, J2.g1, J2.b0, J2.b1, J2.b2⟩ ?_
            refine wpTakes_cons (v := ?_) _ at0 rfl ?_ ?_ ?_
            rotate_left 1
            · rintro W ⟨x0, x1, x2, x3, x4⟩
              go_simp
              rfl
            · exact fun _ _ _ h => h
            simp only [Act.put, List.setIfInBounds_toArray, List.set_cons_zero, List.set_cons_succ]
            refine wpTakes_cons (v := ?_) _ at1 rfl ?_ ?_ ?_
            rotate_left 1
            · rintro W ⟨x0, x1, x2, x3, x4⟩
              go_simp
              rfl
            · exact fun _ _ _ h => h
            simp only [Act.put, List.setIfInBounds_toArray, List.set_cons_zero, List.set_cons_succ]
            refine wpTakes_cons (v := ?_) _ at2 rfl ?_ ?_ ?_
            rotate_left 1
            · rintro W ⟨x0, x1, x2, x3, x4⟩
              go_simp
              rfl
            · exact fun _ _ _ h => h
            simp only [Act.put, List.setIfInBounds_toArray, List.set_cons_zero, List.set_cons_succ]
            refine wpTakes_cons (v := ?_) _ at4 rfl ?_ ?_ ?_
            rotate_left 1
            · rintro W ⟨x0, x1, x2, x3, x4⟩
              go_simp
              rfl
            · exact fun _ _ _ h => h
            simp only [Act.put, List.setIfInBounds_toArray, List.set_cons_zero, List.set_cons_succ]
            refine wpTakes_cons (v := ?_) _ at5 rfl ?_ ?_ ?_
            rotate_left 1
            · rintro W ⟨x0, x1, x2, x3, x4⟩
              go_simp
              rfl
            · exact fun _ _ _ h => h
            simp only [Act.put, List.setIfInBounds_toArray, List.set_cons_zero, List.set_cons_succ]
            refine wpTakes_cons (v := ?_) _ at6 rfl ?_ ?_ ?_
            rotate_left 1
            · rintro W ⟨x0, x1, x2, x3, x4⟩
              go_simp
              rfl
            · exact fun _ _ _ h => h
            simp only [Act.put, List.setIfInBounds_toArray, List.set_cons_zero, List.set_cons_succ]
            refine wpTakes_cons (v := ?_) _ at7 rfl ?_ ?_ ?_
            rotate_left 1
            · rintro W ⟨x0, x1, x2, x3, x4⟩
              go_simp
              rfl
            · exact fun _ _ _ h => h
            simp only [Act.put, List.setIfInBounds_toArray, List.set_cons_zero, List.set_cons_succ]
            refine wpTakes_nil (wpCalls_cons _ at3 rfl fun K hK => ?_)
            go_simp
            go_at_call 197
            refine (HH.out _ J2).mono ?_
            rintro e w4 ⟨F', T', rfl, iF', iT', J3⟩
            refine hK.out _ _ ⟨J3.g0, J3.g1, J3.b0, J3.b1, J3.b2⟩ ?_
            clear hK
            refine wpCalls_cons _ at8 rfl fun K hK => ?_
            go_simp
            go_at_call 198
            refine (HV.out _ J3).mono ?_
            rintro e w5 ⟨a', rfl, ia', J4⟩
            refine hK.out _ _ ⟨J4.g0, J4.g1, J4.b0, J4.b1, J4.b2⟩ (wpCalls_nil ?_)
            clear hK J3 J2 J0
            simp only [List.drop_succ_cons, List.drop_zero]
            have k0 := J4.g0
            have k1 := J4.g1
            have k5 := J4.grp.frozen 0
            have k6 := J4.grp.frozen 1
            have HST := Lib.hid (J4.store F' T')
            clear HH HV J4
            go_wp2
            obtain ⟨r1, r2⟩ := HST.out
            go_roundw
            case rel => exact ⟨k + 1, a', F', T', by omega, by go_num, rfl, ia', iF', iT', r1, r2⟩
            case measure => simp [intOf]; omega
          · obtain rfl : k = nl := by omega
            have hold := Hb0.out.trans (hbW.mono Hb0.out.size)
            have Hia := Lib.hid ia
            clear HLv ia iF iT
            go_wp2
            go_ret
            exact ⟨a, rfl, Hia.out, hold⟩

end Go.Proofs.YtoejenejleocdabGreatDoor

/- Of whatever wave: kinds and Kinds answer some numbers. -/
namespace Go.Proofs.YtoejenejleocdabGreatDoor
open Go.RowKit
attribute [local irreducible] Bt.pop Bt.popF

/-- whatever levels, in so many cells -/
def RL (w : World) (A : Option Addr) (n : Nat) : Prop := ∃ f a1 m1 k1 a2 m2 k2, RLv w A n f a1 m1 k1 a2 m2 k2
theorem RL.on {w w' : World} {A : Option Addr} {n : Nat} (h : RL w A n) (hb : Below w.heap.size w w') : RL w' A n := by
  obtain ⟨f, a1, m1, k1, a2, m2, k2, h⟩ := h
  exact ⟨f, a1, m1, k1, a2, m2, k2, h.on hb⟩
theorem RL.no0 (w : World) (A : Option Addr) : RL w A 0 := ⟨fun _ => 0, fun _ => .none, fun _ => 0, fun _ => 0, fun _ => .none, fun _ => 0, fun _ => 0, fun h => absurd h (by omega), fun k hk => absurd hk (by omega), by omega⟩
theorem RL.tail {w : World} {b o s : Nat} (h : RL w (some ⟨b, o, none⟩) (s + 1)) : RL w (some ⟨b, o + 3, none⟩) s := by
  obtain ⟨f, a1, m1, k1, a2, m2, k2, h⟩ := h
  have h3 := h.small
  refine ⟨fun k => f (k + 1), fun k => a1 (k + 1), fun k => m1 (k + 1), fun k => k1 (k + 1), fun k => a2 (k + 1), fun k => m2 (k + 1), fun k => k2 (k + 1), ?_, fun k hk => h.each (k + 1) (by omega), by omega⟩
  intro hs
  obtain ⟨b', o', e, hlt, hc⟩ := h.row (by omega)
  injection e with e
  injection e with e1 e2
  subst e1 e2
  refine ⟨b, o + 3, rfl, hlt, fun j hj => ?_⟩
  have := hc (j + 1) (by omega)
  rwa [show o + (j + 1) * 3 = o + 3 + j * 3 from by omega] at this

/-- some numbers, each below 65536, no more than so many -/
def SomeL (w : World) (m : Nat) (e : Ending) (w' : World) : Prop := ∃ v L, e = .returned v ∧ OL w L v w' ∧ L.length ≤ m ∧ ∀ x ∈ L, 0 ≤ x ∧ x < 65536

/-- what the closure of kinds reads, of whatever wave -/
structure KR (w0 : World) (B b o s c : Nat) (F T fr tu : Int) (p : Nat) (n0 : Int) (A1 : Option Addr) (np c1 : Nat) (A2 : Option Addr) (na c2 : Nat) (W : World) : Prop where
  r0 : W.cell? ⟨B, 0, none⟩ = some (.slice (some ⟨b, o, none⟩) (s + 1) c)
  g0 : W.cell? ⟨B + 1, 0, none⟩ = some (.int .i64 F)
  g1 : W.cell? ⟨B + 1, 1, none⟩ = some (.int .i64 T)
  f0 : W.cell? ⟨B + 2, 0, none⟩ = some (.int .i64 fr)
  t0 : W.cell? ⟨B + 3, 0, none⟩ = some (.int .i64 tu)
  p0 : W.cell? ⟨B + 4, 0, none⟩ = some (.int .i64 p)
  b0 : W.cell? ⟨B + 5, 0, none⟩ = some (.int .i64 n0)
  b1 : W.cell? ⟨B + 5, 1, none⟩ = some (.slice A1 np c1)
  b2 : W.cell? ⟨B + 5, 2, none⟩ = some (.slice A2 na c2)
  lv : RL W (some ⟨b, o, none⟩) (s + 1)
  raw : RB3 W n0 A1 np A2 na
  big : B + 6 ≤ W.heap.size
  old : Below w0.heap.size w0 W
section
variable {w0 : World} {B b o s c : Nat} {F T fr tu : Int} {p : Nat} {n0 : Int} {A1 A2 : Option Addr} {np c1 na c2 : Nat} {W W' : World}
theorem KR.on (h : KR w0 B b o s c F T fr tu p n0 A1 np c1 A2 na c2 W) (hb : Below W.heap.size W W') : KR w0 B b o s c F T fr tu p n0 A1 np c1 A2 na c2 W' := by
  have := h.big
  have g : ∀ x y, x < B + 6 → W'.cell? ⟨x, y, none⟩ = W.cell? ⟨x, y, none⟩ := fun x y hx => hb.cell (p := ⟨x, y, none⟩) (by simp; omega)
  exact ⟨(g _ _ (by omega)).trans h.r0, (g _ _ (by omega)).trans h.g0, (g _ _ (by omega)).trans h.g1, (g _ _ (by omega)).trans h.f0, (g _ _ (by omega)).trans h.t0, (g _ _ (by omega)).trans h.p0,
    (g _ _ (by omega)).trans h.b0, (g _ _ (by omega)).trans h.b1, (g _ _ (by omega)).trans h.b2, h.lv.on hb, h.raw.on hb, Nat.le_trans h.big hb.size, h.old.trans (hb.mono h.old.size)⟩
theorem KR.drew (h : KR w0 B b o s c F T fr tu p n0 A1 np c1 A2 na c2 W) : KR w0 B b o s c F T fr tu p n0 A1 np c1 A2 na c2 W.drew := h.on (Below.refl _ _).drew
theorem KR.here (h : KR w0 B b o s c F T fr tu p n0 A1 np c1 A2 na c2 W) : KR W B b o s c F T fr tu p n0 A1 np c1 A2 na c2 W :=
  ⟨h.r0, h.g0, h.g1, h.f0, h.t0, h.p0, h.b0, h.b1, h.b2, h.lv, h.raw, h.big, Below.refl _ _⟩
end

/-- what kinds answers where s levels are left, of whatever wave -/
def KindsRaw (s k : Nat) : Prop := ∀ (p : Nat) (A : Option Addr) (c : Nat) (F T fr tu : Int) (W : World), p < 2 ^ k → s ≤ c → RL W A s → Ir F → Ir T → Ir fr → Ir tu →
  Calls Tryz.prog 209 #[.slice A s c, .agg #[.int .i64 F, .int .i64 T], .int .i64 fr, .int .i64 tu, .int .i64 p] W (SomeL W (2 ^ s))

set_option maxHeartbeats 2000000 in
theorem kinds1_raw (s k : Nat) (IH : KindsRaw s (k + 1)) (B b o c p : Nat) (F T fr tu n0 : Int) (A1 A2 : Option Addr) (np c1 na c2 : Nat) (one : Bool) (w : World) (hp : p < 2 ^ k) (hc : s + 1 ≤ c) (hk : k ≤ 16) (iF : Ir F) (iT : Ir T)
    (h : KR w B b o s c F T fr tu p n0 A1 np c1 A2 na c2 w) :
    Calls Tryz.prog 219 #[.bool one, .pointer (some ⟨B, 0, none⟩), .pointer (some ⟨B + 1, 0, none⟩), .pointer (some ⟨B + 5, 0, none⟩), .pointer (some ⟨B + 2, 0, none⟩), .pointer (some ⟨B + 3, 0, none⟩), .pointer (some ⟨B + 4, 0, none⟩)] w (SomeL w (2 ^ s)) := by
  have hkid : Wv.kid p one < 2 ^ (k + 1) := by unfold Wv.kid; rw [Nat.pow_succ]; have := Bt.toNat_le one; omega
  have hp4 : p < 4611686018427387903 := by
    have : 2 ^ k ≤ 2 ^ 16 := Nat.pow_le_pow_right (by omega) hk
    omega
  have H1 : Hid (∀ W, KR w B b o s c F T fr tu p n0 A1 np c1 A2 na c2 W → Calls Tryz.prog 197 #[.agg #[.int .i64 F, .int .i64 T], .agg #[.int .i64 n0, .slice A1 np c1, .slice A2 na c2], .bool one] W fun e w' => ∃ F' T', e = .returned (.agg #[.int .i64 F', .int .i64 T']) ∧ Ir F' ∧ Ir T' ∧ KR w B b o s c F T fr tu p n0 A1 np c1 A2 na c2 w') := Lib.hid fun W hW => (half_raw F T n0 one A1 A2 np c1 na c2 W iF iT hW.raw).mono fun e w' ⟨F', T', e1, e2, e3, e4⟩ => ⟨F', T', e1, e2, e3, hW.on e4⟩
  have H2 : Hid (∀ a W, KR w B b o s c F T fr tu p n0 A1 np c1 A2 na c2 W → Calls Tryz.prog 198 #[.agg #[.int .i64 F, .int .i64 T], .agg #[.int .i64 n0, .slice A1 np c1, .slice A2 na c2], .bool one, .int .i64 a] W fun e w' => ∃ a', e = .returned (.int .i64 a') ∧ Ir a' ∧ KR w B b o s c F T fr tu p n0 A1 np c1 A2 na c2 w') := Lib.hid fun a W hW => (having_raw F T a n0 one A1 A2 np c1 na c2 W hW.raw).mono fun e w' ⟨a', e1, e2, e3⟩ => ⟨a', e1, e2, hW.on e3⟩
  have H4 := Lib.hid (fun W => longer_any p one W hp4)
  have H5 : Hid (∀ F' T' fr' tu' W, Ir F' → Ir T' → Ir fr' → Ir tu' → KR w B b o s c F T fr tu p n0 A1 np c1 A2 na c2 W → Calls Tryz.prog 209 #[.slice (if c = 1 then some ⟨b, o, none⟩ else some ⟨b, o + 3, none⟩) s (c - 1), .agg #[.int .i64 F', .int .i64 T'], .int .i64 fr', .int .i64 tu', .int .i64 (Wv.kid p one : Nat)] W fun e w' => SomeL w (2 ^ s) e w' ∧ KR w B b o s c F T fr tu p n0 A1 np c1 A2 na c2 w') := Lib.hid fun F' T' fr' tu' W i1 i2 i3 i4 hW => (IH (Wv.kid p one) (if c = 1 then some ⟨b, o, none⟩ else some ⟨b, o + 3, none⟩) (c - 1) F' T' fr' tu' W hkid (by omega) (by
    by_cases h1 : c = 1
    · obtain rfl : s = 0 := by omega
      exact RL.no0 _ _
    · rw [if_neg h1]; exact hW.lv.tail) i1 i2 i3 i4).mono fun e w' ⟨v, L, e1, e2, e3, e4⟩ => ⟨⟨v, L, e1, e2.since hW.old, e3, e4⟩, hW.on e2.old⟩
  have h0 := h.drew
  obtain ⟨j0, j1, j2, j3, j4, j5, j6, j7, j8⟩ : _ ∧ _ ∧ _ ∧ _ ∧ _ ∧ _ ∧ _ ∧ _ ∧ _ := ⟨h.r0, h.g0, h.g1, h.f0, h.t0, h.p0, h.b0, h.b1, h.b2⟩
  clear hkid hp4 IH iF iT
  generalize Wv.kid p one = p' at *
  have HSL := Lib.hid (fun W => run_tail b o s c hc W)
  generalize (if c = 1 then some (⟨b, o, none⟩ : Addr) else some ⟨b, o + 3, none⟩) = A' at *
  generalize 2 ^ s = M at *
  go_enter Tryz.func219, Tryz.ntmps219
  go_wp2_with fail
  refine wp_region_takes 20 [0, 1, 2, 3, 4, 6, 7, 8, 9, 11, 12, 13, 14, 16, 17] [5, 10, 15, 18, 19] (fun w' => w'.cell? ⟨B, 0, none⟩ = some (.slice (some ⟨b, o, none⟩) (s + 1) c) ∧ w'.cell? ⟨B + 1, 0, none⟩ = some (.int .i64 F) ∧ w'.cell? ⟨B + 1, 1, none⟩ = some (.int .i64 T) ∧ w'.cell? ⟨B + 2, 0, none⟩ = some (.int .i64 fr) ∧ w'.cell? ⟨B + 3, 0, none⟩ = some (.int .i64 tu) ∧ w'.cell? ⟨B + 4, 0, none⟩ = some (.int .i64 p) ∧
      w'.cell? ⟨B + 5, 0, none⟩ = some (.int .i64 n0) ∧ w'.cell? ⟨B + 5, 1, none⟩ = some (.slice A1 np c1) ∧ w'.cell? ⟨B + 5, 2, none⟩ = some (.slice A2 na c2)) (by kernel_rfl) (by kernel_rfl) ⟨j0, j1, j2, j3, j4, j5, j6, j7, j8⟩ ?_
  clear h j0 j1 j2 j3 j4 j5 j6 j7 j8
  refine wpTakes_cons (v := ?_) _ at0 rfl ?_ ?_ ?_
  rotate_left 1
  · rintro W ⟨x0, x1, x2, x3, x4, x5, x6, x7, x8⟩
    go_simp
    rfl
  · exact fun _ _ _ h => h
  simp only [Act.put, List.setIfInBounds_toArray, List.set_cons_zero, List.set_cons_succ]
  refine wpTakes_cons (v := .slice A' s (c - 1)) _ at1 rfl ?_ ?_ ?_
  · rintro W ⟨x0, x1, x2, x3, x4, x5, x6, x7, x8⟩
    simp only [execOp, Sem.run_bind, Sem.run_pure, Option.map_some, Option.map_none]
    exact (HSL.out W)
  · exact fun _ _ _ h => h
  simp only [Act.put, List.setIfInBounds_toArray, List.set_cons_zero, List.set_cons_succ]
  refine wpTakes_cons (v := ?_) _ at2 rfl ?_ ?_ ?_
  rotate_left 1
  · rintro W ⟨x0, x1, x2, x3, x4, x5, x6, x7, x8⟩
    go_simp
    rfl
  · exact fun _ _ _ h => h
  simp only [Act.put, List.setIfInBounds_toArray, List.set_cons_zero, List.set_cons_succ]
  refine wpTakes_cons (v := ?_) _ at3 rfl ?_ ?_ ?_
  rotate_left 1
  · rintro W ⟨x0, x1, x2, x3, x4, x5, x6, x7, x8⟩
    go_simp
    rfl
  · exact fun _ _ _ h => h
  simp only [Act.put, List.setIfInBounds_toArray, List.set_cons_zero, List.set_cons_succ]
  refine wpTakes_cons (v := ?_) _ at4 rfl ?_ ?_ ?_
  rotate_left 1
  · rintro W ⟨x0, x1, x2, x3, x4, x5, x6, x7, x8⟩
    go_simp
    rfl
  · exact fun _ _ _ h => h
  simp only [Act.put, List.setIfInBounds_toArray, List.set_cons_zero, List.set_cons_succ]
  refine wpTakes_cons (v := ?_) _ at6 rfl ?_ ?_ ?_
  rotate_left 1
  · rintro W ⟨x0, x1, x2, x3, x4, x5, x6, x7, x8⟩
    go_simp
    rfl
  · exact fun _ _ _ h => h
  simp only [Act.put, List.setIfInBounds_toArray, List.set_cons_zero, List.set_cons_succ]
  refine wpTakes_cons (v := ?_) _ at7 rfl ?_ ?_ ?_
  rotate_left 1
  · rintro W ⟨x0, x1, x2, x3, x4, x5, x6, x7, x8⟩
    go_simp
    rfl
  · exact fun _ _ _ h => h
  simp only [Act.put, List.setIfInBounds_toArray, List.set_cons_zero, List.set_cons_succ]
  refine wpTakes_cons (v := ?_) _ at8 rfl ?_ ?_ ?_
  rotate_left 1
  · rintro W ⟨x0, x1, x2, x3, x4, x5, x6, x7, x8⟩
    go_simp
    rfl
  · exact fun _ _ _ h => h
  simp only [Act.put, List.setIfInBounds_toArray, List.set_cons_zero, List.set_cons_succ]
  refine wpTakes_cons (v := ?_) _ at9 rfl ?_ ?_ ?_
  rotate_left 1
  · rintro W ⟨x0, x1, x2, x3, x4, x5, x6, x7, x8⟩
    go_simp
    rfl
  · exact fun _ _ _ h => h
  simp only [Act.put, List.setIfInBounds_toArray, List.set_cons_zero, List.set_cons_succ]
  refine wpTakes_cons (v := ?_) _ at11 rfl ?_ ?_ ?_
  rotate_left 1
  · rintro W ⟨x0, x1, x2, x3, x4, x5, x6, x7, x8⟩
    go_simp
    rfl
  · exact fun _ _ _ h => h
  simp only [Act.put, List.setIfInBounds_toArray, List.set_cons_zero, List.set_cons_succ]
  refine wpTakes_cons (v := ?_) _ at12 rfl ?_ ?_ ?_
  rotate_left 1
  · rintro W ⟨x0, x1, x2, x3, x4, x5, x6, x7, x8⟩
    go_simp
    rfl
  · exact fun _ _ _ h => h
  simp only [Act.put, List.setIfInBounds_toArray, List.set_cons_zero, List.set_cons_succ]
  refine wpTakes_cons (v := ?_) _ at13 rfl ?_ ?_ ?_
  rotate_left 1
  · rintro W ⟨x0, x1, x2, x3, x4, x5, x6, x7, x8⟩
    go_simp
    rfl
  · exact fun _ _ _ h => h
  simp only [Act.put, List.setIfInBounds_toArray, List.set_cons_zero, List.set_cons_succ]
  refine wpTakes_cons (v := ?_) _ at14 rfl ?_ ?_ ?_
  rotate_left 1
  · rintro W ⟨x0, x1, x2, x3, x4, x5, x6, x7, x8⟩
    go_simp
    rfl
  · exact fun _ _ _ h => h
  simp only [Act.put, List.setIfInBounds_toArray, List.set_cons_zero, List.set_cons_succ]
  refine wpTakes_cons (v := ?_) _ at16 rfl ?_ ?_ ?_
  rotate_left 1
  · rintro W ⟨x0, x1, x2, x3, x4, x5, x6, x7, x8⟩
    go_simp
    rfl
  · exact fun _ _ _ h => h
  simp only [Act.put, List.setIfInBounds_toArray, List.set_cons_zero, List.set_cons_succ]
  refine wpTakes_cons (v := ?_) _ at17 rfl ?_ ?_ ?_
  rotate_left 1
  · rintro W ⟨x0, x1, x2, x3, x4, x5, x6, x7, x8⟩
    go_simp
    rfl
  · exact fun _ _ _ h => h
  simp only [Act.put, List.setIfInBounds_toArray, List.set_cons_zero, List.set_cons_succ]
  refine wpTakes_nil ?_
  refine wpCalls_cons _ at5 rfl fun K hK => ?_
  go_simp
  go_at_call 197
  refine (H1.out _ h0).mono ?_
  clear h0
  rintro e w3 ⟨F', T', rfl, i1, i2, h0⟩
  refine hK.out _ _ ⟨h0.r0, h0.g0, h0.g1, h0.f0, h0.t0, h0.p0, h0.b0, h0.b1, h0.b2⟩ ?_
  clear hK
  refine wpCalls_cons _ at10 rfl fun K hK => ?_
  go_simp
  go_at_call 198
  refine (H2.out _ _ h0).mono ?_
  clear h0
  rintro e w3 ⟨fr', rfl, i3, h0⟩
  refine hK.out _ _ ⟨h0.r0, h0.g0, h0.g1, h0.f0, h0.t0, h0.p0, h0.b0, h0.b1, h0.b2⟩ ?_
  clear hK
  refine wpCalls_cons _ at15 rfl fun K hK => ?_
  go_simp
  go_at_call 198
  refine (H2.out _ _ h0).mono ?_
  clear h0
  rintro e w3 ⟨tu', rfl, i4, h0⟩
  refine hK.out _ _ ⟨h0.r0, h0.g0, h0.g1, h0.f0, h0.t0, h0.p0, h0.b0, h0.b1, h0.b2⟩ ?_
  clear hK
  refine wpCalls_cons _ at18 rfl fun K hK => ?_
  go_simp
  go_at_call 220
  refine (H4.out _).mono ?_
  rintro e w3 ⟨rfl, rfl⟩
  refine hK.out _ _ ⟨h0.r0, h0.g0, h0.g1, h0.f0, h0.t0, h0.p0, h0.b0, h0.b1, h0.b2⟩ ?_
  clear hK
  refine wpCalls_cons _ at19 rfl fun K hK => ?_
  go_simp
  go_at_call 209
  refine (H5.out _ _ _ _ _ i1 i2 i3 i4 h0).mono ?_
  rintro e w3 ⟨⟨v, L, rfl, J5, J6, J7⟩, h6⟩
  refine hK.out _ _ ⟨h6.r0, h6.g0, h6.g1, h6.f0, h6.t0, h6.p0, h6.b0, h6.b1, h6.b2⟩ (wpCalls_nil ?_)
  clear hK h0 h6
  simp only [List.drop_succ_cons, List.drop_zero]
  obtain ⟨A9, c9, rfl, _⟩ := own_slice J5.own
  go_wp2
  go_ret
  exact ⟨_, L, rfl, J5, J6, J7⟩

end Go.Proofs.YtoejenejleocdabGreatDoor

/- Of whatever wave: kinds for however many levels, and Kinds. -/
namespace Go.Proofs.YtoejenejleocdabGreatDoor
open Go.RowKit
attribute [local irreducible] Bt.pop Bt.popF

/-- the five blocks of kinds -/
def fivI (w : World) (A : Option Addr) (s c : Nat) (F T : Int) (fr tu : Int) (p : Nat) : World :=
  ((((w.alloc (.cells #[.slice A s c] 29)).alloc (.cells #[.int .i64 F, .int .i64 T] 210)).alloc (.cells #[.int .i64 fr] 3)).alloc (.cells #[.int .i64 tu] 3)).alloc (.cells #[.int .i64 p] 3)
theorem fivI_below (w : World) (A : Option Addr) (s c : Nat) (F T : Int) (fr tu : Int) (p : Nat) : Below w.heap.size w (fivI w A s c F T fr tu p) :=
  (((((Below.refl _ _).alloc (Nat.le_refl _) _).alloc (by simp) _).alloc (by simp; omega) _).alloc (by simp; omega) _).alloc (by simp; omega) _
theorem fivI_size (w : World) (A : Option Addr) (s c : Nat) (F T : Int) (fr tu : Int) (p : Nat) : (fivI w A s c F T fr tu p).heap.size = w.heap.size + 5 := by simp [fivI]
theorem fivI_cells (w : World) (A : Option Addr) (s c : Nat) (F T : Int) (fr tu : Int) (p : Nat) :
    (fivI w A s c F T fr tu p).cell? ⟨w.heap.size, 0, none⟩ = some (.slice A s c) ∧ (fivI w A s c F T fr tu p).cell? ⟨w.heap.size + 1, 0, none⟩ = some (.int .i64 F) ∧ (fivI w A s c F T fr tu p).cell? ⟨w.heap.size + 1, 1, none⟩ = some (.int .i64 T) ∧
    (fivI w A s c F T fr tu p).cell? ⟨w.heap.size + 2, 0, none⟩ = some (.int .i64 fr) ∧ (fivI w A s c F T fr tu p).cell? ⟨w.heap.size + 3, 0, none⟩ = some (.int .i64 tu) ∧ (fivI w A s c F T fr tu p).cell? ⟨w.heap.size + 4, 0, none⟩ = some (.int .i64 p) := by
  unfold fivI
  have lt : ∀ (v : World) (o : Obj) (x y : Nat), x < v.heap.size → (v.alloc o).cell? ⟨x, y, none⟩ = v.cell? ⟨x, y, none⟩ := fun v o x y hx => World.cell?_alloc_lt _ _ _ hx
  generalize hv1 : w.alloc _ = v1
  have s1 : v1.heap.size = w.heap.size + 1 := by rw [← hv1]; simp
  have a1 : v1.cell? ⟨w.heap.size, 0, none⟩ = some (.slice A s c) := by rw [← hv1]; simp
  generalize hv2 : v1.alloc _ = v2
  have s2 : v2.heap.size = w.heap.size + 2 := by rw [← hv2]; simp [s1]
  have a2 : v2.cell? ⟨w.heap.size + 1, 0, none⟩ = some (.int .i64 F) := by rw [← hv2, ← s1]; simp
  have a3 : v2.cell? ⟨w.heap.size + 1, 1, none⟩ = some (.int .i64 T) := by rw [← hv2, ← s1]; simp
  generalize hv3 : v2.alloc _ = v3
  have s3 : v3.heap.size = w.heap.size + 3 := by rw [← hv3]; simp [s2]
  have a4 : v3.cell? ⟨w.heap.size + 2, 0, none⟩ = some (.int .i64 fr) := by rw [← hv3, ← s2]; simp
  generalize hv4 : v3.alloc _ = v4
  have s4 : v4.heap.size = w.heap.size + 4 := by rw [← hv4]; simp [s3]
  have a5 : v4.cell? ⟨w.heap.size + 3, 0, none⟩ = some (.int .i64 tu) := by rw [← hv4, ← s3]; simp
  refine ⟨?_, ?_, ?_, ?_, ?_, by rw [← s4]; simp⟩
  · rw [lt _ _ _ _ (by omega), ← hv4, lt _ _ _ _ (by omega), ← hv3, lt _ _ _ _ (by omega), ← hv2, lt _ _ _ _ (by omega)]; exact a1
  · rw [lt _ _ _ _ (by omega), ← hv4, lt _ _ _ _ (by omega), ← hv3, lt _ _ _ _ (by omega)]; exact a2
  · rw [lt _ _ _ _ (by omega), ← hv4, lt _ _ _ _ (by omega), ← hv3, lt _ _ _ _ (by omega)]; exact a3
  · rw [lt _ _ _ _ (by omega), ← hv4, lt _ _ _ _ (by omega)]; exact a4
  · rw [lt _ _ _ _ (by omega)]; exact a5

set_option maxHeartbeats 1000000 in
theorem kindsRaw_none (s p : Nat) (A : Option Addr) (c : Nat) (F T fr tu : Int) (w : World) (h : tu ≤ fr) :
    Calls Tryz.prog 209 #[.slice A s c, .agg #[.int .i64 F, .int .i64 T], .int .i64 fr, .int .i64 tu, .int .i64 p] w (SomeL w (2 ^ s)) := by
  have hb := fivI_below w A s c F T fr tu p
  unfold fivI at hb
  generalize 2 ^ s = M
  go_enter Tryz.func209, Tryz.ntmps209
  go_wp2
  go_ret
  exact ⟨_, [], rfl, OL.nil _ _ hb, Nat.zero_le _, fun _ hx => absurd hx (by simp)⟩

set_option maxHeartbeats 1000000 in
theorem kindsRaw_zero (k : Nat) (hk : k ≤ 16) : KindsRaw 0 k := by
  intro p A c F T fr tu w hp hc hlv iF iT ifr itu
  by_cases h : tu ≤ fr
  · exact kindsRaw_none 0 p A c F T fr tu w h
  · have hb := fivI_below w A 0 c F T fr tu p
    have hO := OL.one w _ p hb
    rw [fivI_size] at hO
    have hp4 : p < 65536 := by
      have : 2 ^ k ≤ 2 ^ 16 := Nat.pow_le_pow_right (by omega) hk
      omega
    clear hlv hb iF iT ifr itu hp
    unfold fivI at hO
    go_enter Tryz.func209, Tryz.ntmps209
    go_wp2
    go_ret
    exact ⟨_, [(p : Int)], rfl, hO, by simp, fun x hx => by simp at hx; subst hx; omega⟩

set_option maxHeartbeats 2000000 in
theorem kindsRaw_step (s k : Nat) (IH : KindsRaw s (k + 1)) (hk : s + 1 + k ≤ 16) : KindsRaw (s + 1) k := by
  intro p A c F T fr tu w hp hc hlv iF iT ifr itu
  by_cases h : tu ≤ fr
  · exact kindsRaw_none (s + 1) p A c F T fr tu w h
  · have hlv0 := hlv
    obtain ⟨f, a1, m1, k1, a2, m2, k2, hL⟩ := hlv0
    obtain ⟨b, o, rfl, hblt, hlev⟩ := hL.row (by omega)
    obtain ⟨q1, q2, q3⟩ := hlev 0 (by omega)
    have hI := hL.each 0 (by omega)
    simp only [Nat.zero_mul, Nat.add_zero] at q1 q2 q3
    generalize f 0 = n0 at *
    generalize a1 0 = A1 at *
    generalize m1 0 = np at *
    generalize k1 0 = c1 at *
    generalize a2 0 = A2 at *
    generalize m2 0 = na at *
    generalize k2 0 = c2 at *
    clear hL hlev
    have hb := fivI_below w (some ⟨b, o, none⟩) (s + 1) c F T fr tu p
    have hsz := fivI_size w (some ⟨b, o, none⟩) (s + 1) c F T fr tu p
    obtain ⟨d0, d1, d2, d3, d4, d5⟩ := fivI_cells w (some ⟨b, o, none⟩) (s + 1) c F T fr tu p
    obtain ⟨V, hV⟩ : ∃ V, V = fivI w (some ⟨b, o, none⟩) (s + 1) c F T fr tu p := ⟨_, rfl⟩
    rw [← hV] at hb hsz d0 d1 d2 d3 d4 d5
    have e1 : V.cell? ⟨b, o, none⟩ = some (.int .i64 n0) := (hb.cell (p := ⟨b, o, none⟩) hblt).trans q1
    have e2 : V.cell? ⟨b, o + 1, none⟩ = some (.slice A1 np c1) := (hb.cell (p := ⟨b, o + 1, none⟩) hblt).trans q2
    have e3 : V.cell? ⟨b, o + 2, none⟩ = some (.slice A2 na c2) := (hb.cell (p := ⟨b, o + 2, none⟩) hblt).trans q3
    obtain ⟨V2, hV2⟩ : ∃ V2, V2 = V.alloc (.cells #[.int .i64 n0, .slice A1 np c1, .slice A2 na c2] 100) := ⟨_, rfl⟩
    have hb2 : Below V.heap.size V V2 := by rw [hV2]; exact (Below.refl _ _).alloc (Nat.le_refl _) _
    have hb3 : Below w.heap.size w V2 := hb.trans (hb2.mono hb.size)
    have K0 : KR w w.heap.size b o s c F T fr tu p n0 A1 np c1 A2 na c2 V2 := by
      have g : ∀ x y, x < w.heap.size + 5 → V2.cell? ⟨x, y, none⟩ = V.cell? ⟨x, y, none⟩ := fun x y hx => hb2.cell (p := ⟨x, y, none⟩) (by simp; omega)
      refine ⟨(g _ _ (by omega)).trans d0, (g _ _ (by omega)).trans d1, (g _ _ (by omega)).trans d2, (g _ _ (by omega)).trans d3, (g _ _ (by omega)).trans d4, (g _ _ (by omega)).trans d5, ?_, ?_, ?_, hlv.on hb3, hI.on hb3, ?_, hb3⟩
      · rw [hV2, ← hsz]; simp
      · rw [hV2, ← hsz]; simp
      · rw [hV2, ← hsz]; simp
      · rw [hV2]; simp [hsz]
    have HC := Lib.hid (fun (one : Bool) (W : World) (hW : KR w w.heap.size b o s c F T fr tu p n0 A1 np c1 A2 na c2 W) => kinds1_raw s k IH w.heap.size b o c p F T fr tu n0 A1 A2 np c1 na c2 one W hp hc (by omega) iF iT hW.here)
    have n3 : 2 ^ s ≤ 2 ^ 16 := Nat.pow_le_pow_right (by omega) (by omega)
    have n4 : 2 ^ (s + 1) = 2 ^ s + 2 ^ s := by rw [Nat.pow_succ]; omega
    rw [n4]
    have HCf := Lib.hid (HC.out false V2 K0)
    have HCt := Lib.hid (HC.out true)
    generalize 2 ^ s = M at *
    have K1 := Lib.hid K0
    have HB3 := Lib.hid hb3
    clear HC K0 hlv IH q1 q2 q3 hI hb hb2 hb3 d1 d2 n4 iF iT ifr itu
    have z0 : ¬ ((s : Int) + 1 = 0) := by omega
    unfold fivI at hV
    have HV := Lib.hid hV
    have HV2 := Lib.hid hV2
    have HSZ := Lib.hid hsz
    clear hV hV2 hsz
    go_enter Tryz.func209, Tryz.ntmps209
    go_upto_region 1 with fail
    rw [← HV.out]
    clear HV
    simp only [Nat.add_assoc, Nat.reduceAdd]
    go_upto_region 7 with fail
    rw [← HV2.out]
    rw [HSZ.out]
    clear HV2 d0 d3 d4 d5 e1 e2 e3 HSZ
    go_wp2_with fail
    with_reducible refine HCf.out.mono ?_
    rintro e w1 ⟨v1, L1, rfl, O1, n1, p1⟩
    have K2 := Lib.hid (K1.out.on O1.old)
    have HCu := Lib.hid (HCt.out w1 K2.out)
    clear K1 HCf HCt
    go_wp2_with fail
    with_reducible refine HCu.out.mono ?_
    rintro e w2 ⟨v2, L2, rfl, O2, n2, p2⟩
    have m1 : L1.length + L2.length ≤ maxLen := by unfold maxLen; omega
    have m2 : (L1.length + L2.length) * 8 ≤ 140737488355328 := by omega
    have O1' := (O1.since HB3.out).on O2.old
    obtain ⟨A9, c9, rfl, _⟩ := own_slice O2.own
    obtain ⟨_, hr9⟩ := own_row (0 : Int) O2.own
    have hbase := O1'.old.size
    have HJ : Hid (∀ v' W', W'.ownsRow w.heap.size 3 1 v' (L1.length + L2.length) (L1.map (Value.int .i64) ++ (List.range L2.length).map (fun i => .int .i64 (L2.getD i 0))) → w2.grownBy W' v1.ownBlock → OL w (L1 ++ L2) v' W') := Lib.hid fun v' W' h1 h2 => by
      refine ⟨?_, O1'.old.grown h2 O1'.old.size (fun g hg => (O1'.own.lt g hg).1)⟩
      rw [List.length_append, List.map_append, map_range_getD L2 0]
      exact h1
    have HP : Hid ((L1 ++ L2).length ≤ M + M ∧ ∀ x ∈ L1 ++ L2, 0 ≤ x ∧ x < 65536) := Lib.hid ⟨by rw [List.length_append]; omega, fun x hx => by
      rcases List.mem_append.1 hx with hx | hx
      · exact p1 x hx
      · exact p2 x hx⟩
    clear HCu K2 O1 p1 p2 n1 n2
    go_wp2_with (at_builtin; refine wpList_app_row _ rfl _ _ 22 rfl w.heap.size 3 (.int .i64 0) 8 Tryz.underlying22 infoInt4 rfl _ L1.length (L1.map (Value.int .i64)) rfl O1'.own _ L2.length c9 _ rfl hr9 (fun _ _ => rfl) m1 m2 hbase ?_; intro v' w3 h2 h3 h4; obtain ⟨A8, c8, rfl, _⟩ := own_slice h2)
    go_ret
    exact ⟨_, _, rfl, HJ.out _ _ h2 h3, HP.out.1, HP.out.2⟩

theorem kindsRaw_all : ∀ s k, s + k ≤ 16 → KindsRaw s k
  | 0, k, hk => kindsRaw_zero k (by omega)
  | s + 1, k, hk => kindsRaw_step s k (kindsRaw_all s (k + 1) (by omega)) hk

/-- the block in which a function keeps a wave, whatever wave -/
structure WR (w : World) (N D : Int) (A : Option Addr) (n c : Nat) (W : World) : Prop where
  c0 : W.cell? ⟨w.heap.size, 0, none⟩ = some (.int .i64 N)
  c1 : W.cell? ⟨w.heap.size, 1, none⟩ = some (.int .i64 D)
  c2 : W.cell? ⟨w.heap.size, 2, none⟩ = some (.slice A n c)
  lv : RL W A n
  lt : w.heap.size < W.heap.size
  old : Below w.heap.size w W
theorem WR.on {w : World} {N D : Int} {A : Option Addr} {n c : Nat} {W W' : World} (h : WR w N D A n c W) (hb : Below W.heap.size W W') : WR w N D A n c W' :=
  ⟨(hb.cell (p := ⟨w.heap.size, 0, none⟩) h.lt).trans h.c0, (hb.cell (p := ⟨w.heap.size, 1, none⟩) h.lt).trans h.c1, (hb.cell (p := ⟨w.heap.size, 2, none⟩) h.lt).trans h.c2, h.lv.on hb, Nat.lt_of_lt_of_le h.lt hb.size, h.old.trans (hb.mono h.old.size)⟩
theorem WR.start {w : World} {A : Option Addr} {n : Nat} (h : RL w A n) (N D : Int) (c : Nat) (t : TypeId) : WR w N D A n c (w.alloc (.cells #[.int .i64 N, .int .i64 D, .slice A n c] t)) :=
  ⟨by simp, by simp, by simp, h.on ((Below.refl _ _).alloc (Nat.le_refl _) _), by simp, (Below.refl _ _).alloc (Nat.le_refl _) _⟩

/-- isShaped tells something, and of a shaped wave the levels are few -/
theorem shaped_raw {w : World} {A : Option Addr} {n : Nat} (h : RL w A n) (N D : Int) (c : Nat) : ∃ y : Bool, (y = true → (n : Int) = D ∧ n ≤ 16) ∧
    ∀ W, WR w N D A n c W → Calls Tryz.prog 195 #[.agg #[.int .i64 N, .int .i64 D, .slice A n c]] W fun e w' => e = .returned (.bool y) ∧ WR w N D A n c w' := by
  obtain ⟨f, a1, m1, k1, a2, m2, k2, hL⟩ := h
  refine ⟨shapeOk D n N f, fun hy => by have := shape_yes hy; omega, fun W hW => ?_⟩
  have hr := hL.on hW.old
  exact (isShaped_any N D A n c f a1 a2 m1 k1 m2 k2 W hr.row hL.small).mono fun e w' hh => And.intro hh.1 (hW.on hh.2)

set_option maxHeartbeats 2000000 in
theorem wkinds_raw {w : World} {A : Option Addr} {n : Nat} (h : RL w A n) (N D : Int) (c : Nat) (hc : n ≤ c) (fr tu : Int) (iN : Ir N) (ifr : Ir fr) (itu : Ir tu) :
    Calls Tryz.prog 187 #[.agg #[.int .i64 N, .int .i64 D, .slice A n c], .int .i64 fr, .int .i64 tu] w (SomeL w 65536) := by
  have hB : WR w N D A n c _ := WR.start h N D c 31
  obtain ⟨y, hy, hS⟩ := shaped_raw h N D c
  have HS := Lib.hid hS
  clear hS h
  cases y with
  | false =>
    clear hy
    go_enter Tryz.func187, Tryz.ntmps187
    go_wp2_with fail
    with_reducible refine (HS.out _ hB).mono ?_
    rintro e w1 ⟨rfl, B1⟩
    clear hB HS
    go_wp2
    go_ret
    exact ⟨_, [], rfl, OL.nil _ _ B1.old, Nat.zero_le _, fun _ hx => absurd hx (by simp)⟩
  | true =>
    obtain ⟨_, h16⟩ := hy rfl
    have HW := Lib.hid (fun W (hW : WR w N D A n c W) => (whole_any N D A n c W).mono fun e w' hh => And.intro hh.1 (hW.on hh.2))
    have HK := Lib.hid (fun W (hW : WR w N D A n c W) => show Calls Tryz.prog 209 #[.slice A n c, .agg #[.int .i64 0, .int .i64 N], .int .i64 fr, .int .i64 tu, .int .i64 0] W fun e w' => SomeL w 65536 e w' ∧ WR w N D A n c w' from by
      have h2 : 2 ^ n ≤ 2 ^ 16 := Nat.pow_le_pow_right (by omega) h16
      exact (kindsRaw_all n 0 (by omega) 0 A c 0 N fr tu W (by omega) hc hW.lv (by unfold Ir; omega) iN ifr itu).mono fun e w' ⟨v, L, e1, e2, e3, e4⟩ => ⟨⟨v, L, e1, e2.since hW.old, by omega, e4⟩, hW.on e2.old⟩)
    clear hy h16
    go_enter Tryz.func187, Tryz.ntmps187
    go_wp2_with fail
    with_reducible refine (HS.out _ hB).mono ?_
    rintro e w1 ⟨rfl, B1⟩
    clear hB HS
    go_upto_region 3 with fail
    have B2 := B1.on (Below.refl _ _).drew
    refine wp_region_takes 7 [0, 1, 2, 4, 5] [3, 6] (fun w' => w'.cell? ⟨w.heap.size, 0, none⟩ = some (.int .i64 N) ∧ w'.cell? ⟨w.heap.size, 1, none⟩ = some (.int .i64 D) ∧ w'.cell? ⟨w.heap.size, 2, none⟩ = some (.slice A n c)) (by kernel_rfl) (by kernel_rfl) ⟨B1.c0, B1.c1, B1.c2⟩ ?_
    refine wpTakes_cons (v := ?_) _ at0 rfl ?_ ?_ ?_
    rotate_left 1
    · rintro W ⟨x0, x1, x2⟩
      go_simp
      rfl
    · exact fun _ _ _ h => h
    simp only [Act.put, List.setIfInBounds_toArray, List.set_cons_zero, List.set_cons_succ]
    refine wpTakes_cons (v := ?_) _ at1 rfl ?_ ?_ ?_
    rotate_left 1
    · rintro W ⟨x0, x1, x2⟩
      go_simp
      rfl
    · exact fun _ _ _ h => h
    simp only [Act.put, List.setIfInBounds_toArray, List.set_cons_zero, List.set_cons_succ]
    refine wpTakes_cons (v := ?_) _ at2 rfl ?_ ?_ ?_
    rotate_left 1
    · rintro W ⟨x0, x1, x2⟩
      go_simp
      rfl
    · exact fun _ _ _ h => h
    simp only [Act.put, List.setIfInBounds_toArray, List.set_cons_zero, List.set_cons_succ]
    refine wpTakes_cons (v := ?_) _ at4 rfl ?_ ?_ ?_
    rotate_left 1
    · rintro W ⟨x0, x1, x2⟩
      go_simp
      rfl
    · exact fun _ _ _ h => h
    simp only [Act.put, List.setIfInBounds_toArray, List.set_cons_zero, List.set_cons_succ]
    refine wpTakes_cons (v := ?_) _ at5 rfl ?_ ?_ ?_
    rotate_left 1
    · rintro W ⟨x0, x1, x2⟩
      go_simp
      rfl
    · exact fun _ _ _ h => h
    simp only [Act.put, List.setIfInBounds_toArray, List.set_cons_zero, List.set_cons_succ]
    refine wpTakes_nil (wpCalls_cons _ at3 rfl fun K hK => ?_)
    go_simp
    go_at_call 196
    refine (HW.out _ B2).mono ?_
    rintro e w3 ⟨rfl, B3⟩
    refine hK.out _ _ ⟨B3.c0, B3.c1, B3.c2⟩ ?_
    clear hK
    refine wpCalls_cons _ at6 rfl fun K hK => ?_
    go_simp
    go_at_call 209
    refine (HK.out _ B3).mono ?_
    rintro e w4 ⟨⟨v, L, rfl, O4, l4, p4⟩, B4⟩
    refine hK.out _ _ ⟨B4.c0, B4.c1, B4.c2⟩ (wpCalls_nil ?_)
    clear hK
    simp only [List.drop_succ_cons, List.drop_zero]
    obtain ⟨A9, c9, rfl, _⟩ := own_slice O4.own
    go_wp2
    go_ret
    exact ⟨_, L, rfl, O4, l4, p4⟩

end Go.Proofs.YtoejenejleocdabGreatDoor

/- Of whatever index: Longer answers some span. -/
namespace Go.Proofs.YtoejenejleocdabGreatDoor
open Go.RowKit
attribute [local irreducible] Bt.pop Bt.popF

theorem wcountR {w : World} {A : Option Addr} {nl : Nat} (h : RL w A nl) (N D : Int) (c : Nat) (n i : Int) (hN : Ir N) (hi : Ir i) :
    Calls Tryz.prog 159 #[.agg #[.int .i64 N, .int .i64 D, .slice A nl c], .int .i64 n, .int .i64 i] w (SomeI w) := by
  obtain ⟨f, a1, m1, k1, a2, m2, k2, h⟩ := h
  exact wcount_raw N D A nl c f a1 m1 k1 a2 m2 k2 n i w h hN hi

/-- whatever index -/
structure RC (w : World) (E L S : Option Addr) (cE cL nE nL M : Nat) (N : Int) : Prop where
  ends : ∃ f : Nat → Int, Row w w.heap.size E nE (fun k => .int .i64 (f k))
  lv : RL w L nL
  less : ∃ g : Nat → Int, Row w w.heap.size S M (fun k => .int .i64 (g k))
  iN : Ir N
  sE : nE < 4611686018427387904
  sM : M < 4611686018427387904
  capE : nE ≤ cE
  capL : nL ≤ cL
theorem RC.on {w w' : World} {E L S : Option Addr} {cE cL nE nL M : Nat} {N : Int} (h : RC w E L S cE cL nE nL M N) (hb : Below w.heap.size w w') : RC w' E L S cE cL nE nL M N := by
  obtain ⟨f, h1⟩ := h.ends
  obtain ⟨g, h2⟩ := h.less
  exact ⟨⟨f, (h1.below hb).more hb.size⟩, h.lv.on hb, ⟨g, (h2.below hb).more hb.size⟩, h.iN, h.sE, h.sM, h.capE, h.capL⟩

theorem numbers_raw (E L S : Option Addr) (nE cE : Nat) (N D : Int) (nL cL M cS : Nat) (w : World) (hM : M < 4611686018427387904) :
    Calls Tryz.prog 143 #[.agg #[.slice E nE cE, .int .i64 N, .int .i64 D, .slice L nL cL, .slice S M cS]] w fun e w' => e = .returned (.int .i64 ((M : Int) - 1)) ∧ Below w.heap.size w w' := by
  go_enter Tryz.func143, Tryz.ntmps143
  go_wp2
  go_ret
  exact ⟨rfl, (Below.refl _ _).alloc (Nat.le_refl _) _⟩

set_option maxHeartbeats 400000 in
theorem combWhole_raw (E L S : Option Addr) (nE cE : Nat) (N D : Int) (nL cL M cS : Nat) (w : World) :
    Calls Tryz.prog 121 #[.agg #[.slice E nE cE, .int .i64 N, .int .i64 D, .slice L nL cL, .slice S M cS]] w fun e w' => e = .returned (.agg #[.int .i64 0, .int .i64 nE]) ∧ Below w.heap.size w w' := by
  go_enter Tryz.func121, Tryz.ntmps121
  go_wp2
  refine bodyPost_ret (v := .agg #[.int .i64 0, .int .i64 nE]) (by simp [results, Tryz.results121, go_sem]) rfl ⟨rfl, ?_⟩
  exact ((Below.refl _ _).alloc (Nat.le_refl _) _).alloc (by simp) _

/-- has a span all ends in it? -/
def whI (f t : Int) (n : Nat) : Bool := decide (f ≤ 0 ∧ (n : Int) ≤ t)

set_option maxHeartbeats 400000 in
theorem isWhole_raw (E L S : Option Addr) (nE cE : Nat) (N D : Int) (nL cL M cS : Nat) (f t : Int) (w : World) :
    Calls Tryz.prog 158 #[.agg #[.slice E nE cE, .int .i64 N, .int .i64 D, .slice L nL cL, .slice S M cS], .agg #[.int .i64 f, .int .i64 t]] w fun e w' => e = .returned (.bool (whI f t nE)) ∧ Below w.heap.size w w' := by
  have hb : Below w.heap.size w ((w.alloc (.cells #[.slice E nE cE, .int .i64 N, .int .i64 D, .slice L nL cL, .slice S M cS] 33)).alloc (.cells #[.int .i64 f, .int .i64 t] 115)) := ((Below.refl _ _).alloc (Nat.le_refl _) _).alloc (by simp) _
  by_cases h0 : f ≤ 0
  · have HH := Lib.hid (show whI f t nE = decide ((nE : Int) ≤ t) by unfold whI; simp [h0])
    go_enter Tryz.func158, Tryz.ntmps158
    go_wp2
    go_ret
    exact ⟨by rw [HH.out]; rfl, hb⟩
  · have HH := Lib.hid (show whI f t nE = false by unfold whI; simp [h0])
    go_enter Tryz.func158, Tryz.ntmps158
    go_wp2
    go_ret
    exact ⟨by rw [HH.out]; rfl, hb⟩

/-- some span: none, or from less than to -/
def SomeS (w : World) (e : Ending) (w' : World) : Prop := ∃ F T : Int, e = .returned (.agg #[.int .i64 F, .int .i64 T]) ∧ Ir F ∧ Ir T ∧ (F < T ∨ (F = 0 ∧ T = 0)) ∧ Below w.heap.size w w'
theorem grpI_alloc (w : World) (f t : Int) (ty : TypeId) : (w.alloc (.cells #[.int .i64 f, .int .i64 t] ty)).rowIs w.heap.size ty 2 (grpI f t) :=
  World.rowIs_alloc w #[.int .i64 f, .int .i64 t] ty (grpI f t) (fun i hi => by
    match i, hi with
    | 0, _ => rfl
    | 1, _ => rfl)

/-- whatever index, a span, and a span that is to be handed back, in three blocks of the call's own -/
structure LR (w : World) (E L S : Option Addr) (cE cL cS nE nL M : Nat) (N D f t : Int) (W : World) : Prop where
  c0 : W.cell? ⟨w.heap.size, 0, none⟩ = some (.slice E nE cE)
  c1 : W.cell? ⟨w.heap.size, 1, none⟩ = some (.int .i64 N)
  c2 : W.cell? ⟨w.heap.size, 2, none⟩ = some (.int .i64 D)
  c3 : W.cell? ⟨w.heap.size, 3, none⟩ = some (.slice L nL cL)
  c4 : W.cell? ⟨w.heap.size, 4, none⟩ = some (.slice S M cS)
  rc : RC W E L S cE cL nE nL M N
  lt : w.heap.size < W.heap.size
  old : Below w.heap.size w W
  sp : W.rowIs (w.heap.size + 1) 115 2 (grpI f t)
  res : W.rowIs (w.heap.size + 2) 115 2 (grpI 0 0)
section
variable {w : World} {E L S : Option Addr} {cE cL cS nE nL M : Nat} {N D f t : Int} {W W' : World}
theorem LR.on (h : LR w E L S cE cL cS nE nL M N D f t W) (hb : Below W.heap.size W W') : LR w E L S cE cL cS nE nL M N D f t W' :=
  ⟨(hb.cell (p := ⟨w.heap.size, 0, none⟩) h.lt).trans h.c0, (hb.cell (p := ⟨w.heap.size, 1, none⟩) h.lt).trans h.c1, (hb.cell (p := ⟨w.heap.size, 2, none⟩) h.lt).trans h.c2, (hb.cell (p := ⟨w.heap.size, 3, none⟩) h.lt).trans h.c3, (hb.cell (p := ⟨w.heap.size, 4, none⟩) h.lt).trans h.c4,
    h.rc.on hb, Nat.lt_of_lt_of_le h.lt hb.size, h.old.trans (hb.mono h.old.size), h.sp.of_block (hb.block _ h.sp.lt), h.res.of_block (hb.block _ h.res.lt)⟩
theorem LR.drew (h : LR w E L S cE cL cS nE nL M N D f t W) : LR w E L S cE cL cS nE nL M N D f t W.drew := h.on (Below.refl _ _).drew
theorem LR.start (h : RC w E L S cE cL nE nL M N) :
    LR w E L S cE cL cS nE nL M N D f t (((w.alloc (.cells #[.slice E nE cE, .int .i64 N, .int .i64 D, .slice L nL cL, .slice S M cS] 33)).alloc (.cells #[.int .i64 f, .int .i64 t] 115)).alloc (.cells #[.int .i64 0, .int .i64 0] 115)) := by
  have lt : ∀ (v : World) (o : Obj) (x y : Nat), x < v.heap.size → (v.alloc o).cell? ⟨x, y, none⟩ = v.cell? ⟨x, y, none⟩ := fun v o x y hx => World.cell?_alloc_lt _ _ _ hx
  have h2 := grpI_alloc (w.alloc (.cells #[.slice E nE cE, .int .i64 N, .int .i64 D, .slice L nL cL, .slice S M cS] 33)) f t 115
  have h3 := grpI_alloc ((w.alloc (.cells #[.slice E nE cE, .int .i64 N, .int .i64 D, .slice L nL cL, .slice S M cS] 33)).alloc (.cells #[.int .i64 f, .int .i64 t] 115)) 0 0 115
  have hb := (Below.refl _ ((w.alloc (.cells #[.slice E nE cE, .int .i64 N, .int .i64 D, .slice L nL cL, .slice S M cS] 33)).alloc (.cells #[.int .i64 f, .int .i64 t] 115))).alloc (Nat.le_refl _) (.cells #[.int .i64 0, .int .i64 0] 115)
  have hb3 : Below w.heap.size w (((w.alloc (.cells #[.slice E nE cE, .int .i64 N, .int .i64 D, .slice L nL cL, .slice S M cS] 33)).alloc (.cells #[.int .i64 f, .int .i64 t] 115)).alloc (.cells #[.int .i64 0, .int .i64 0] 115)) := (((Below.refl _ _).alloc (Nat.le_refl _) _).alloc (by simp) _).alloc (by simp; omega) _
  refine ⟨?_, ?_, ?_, ?_, ?_, h.on hb3, by simp; omega, hb3, ?_, ?_⟩
  · rw [lt _ _ _ _ (by simp; omega), lt _ _ _ _ (by simp)]; simp
  · rw [lt _ _ _ _ (by simp; omega), lt _ _ _ _ (by simp)]; simp
  · rw [lt _ _ _ _ (by simp; omega), lt _ _ _ _ (by simp)]; simp
  · rw [lt _ _ _ _ (by simp; omega), lt _ _ _ _ (by simp)]; simp
  · rw [lt _ _ _ _ (by simp; omega), lt _ _ _ _ (by simp)]; simp
  · have := h2.of_block (hb.block _ h2.lt)
    rwa [World.size_alloc] at this
  · rwa [World.size_alloc, World.size_alloc] at h3
theorem LR.s0 (h : LR w E L S cE cL cS nE nL M N D f t W) : W.cell? ⟨w.heap.size + 1, 0, none⟩ = some (.int .i64 f) := h.sp.cell (i := 0) (by omega)
theorem LR.s1 (h : LR w E L S cE cL cS nE nL M N D f t W) : W.cell? ⟨w.heap.size + 1, 1, none⟩ = some (.int .i64 t) := h.sp.cell (i := 1) (by omega)
theorem LR.r0 (h : LR w E L S cE cL cS nE nL M N D f t W) : W.cell? ⟨w.heap.size + 2, 0, none⟩ = some (.int .i64 0) := h.res.cell (i := 0) (by omega)
theorem LR.r1 (h : LR w E L S cE cL cS nE nL M N D f t W) : W.cell? ⟨w.heap.size + 2, 1, none⟩ = some (.int .i64 0) := h.res.cell (i := 1) (by omega)
/-- the result stored -/
theorem LR.end_ (h : LR w E L S cE cL cS nE nL M N D f t W) (v0 v1 : Value) : ((W.setCell ⟨w.heap.size + 2, 0, none⟩ v0).setCell ⟨w.heap.size + 2, 1, none⟩ v1).cell? ⟨w.heap.size + 2, 0, none⟩ = some v0 ∧ ((W.setCell ⟨w.heap.size + 2, 0, none⟩ v0).setCell ⟨w.heap.size + 2, 1, none⟩ v1).cell? ⟨w.heap.size + 2, 1, none⟩ = some v1 ∧ Below w.heap.size w ((W.setCell ⟨w.heap.size + 2, 0, none⟩ v0).setCell ⟨w.heap.size + 2, 1, none⟩ v1) :=
  ⟨(set2 h.res v0 v1).1, (set2 h.res v0 v1).2, (h.old.setCell (by show w.heap.size ≤ w.heap.size + 2; omega) _).setCell (by show w.heap.size ≤ w.heap.size + 2; omega) _⟩
end

set_option maxHeartbeats 1000000 in
theorem longerRaw_no (E L S : Option Addr) (cE cL cS nE nL M : Nat) (N D f t : Int) (x : Int) (w : World) (h : RC w E L S cE cL nE nL M N) (hx : x < 0 ∨ (M : Int) - 1 ≤ x) :
    Calls Tryz.prog 123 #[.agg #[.slice E nE cE, .int .i64 N, .int .i64 D, .slice L nL cL, .slice S M cS], .agg #[.int .i64 f, .int .i64 t], .int .i64 x] w (SomeS w) := by
  have J : LR w E L S cE cL cS nE nL M N D f t _ := LR.start h
  have hM2 := h.sM
  have HN := Lib.hid (fun W (hW : LR w E L S cE cL cS nE nL M N D f t W) => (numbers_raw E L S nE cE N D nL cL M cS W hM2).mono fun e w' hh => And.intro hh.1 (hW.on hh.2))
  clear h
  rcases hx with hx | hx
  · go_enter Tryz.func123, Tryz.ntmps123
    go_wp2
    exact bodyPost_ret (v := .agg #[.int .i64 0, .int .i64 0]) (by simp [results, Tryz.results123, go_sem]) rfl ⟨0, 0, rfl, by unfold Ir; omega, by unfold Ir; omega, .inr ⟨rfl, rfl⟩, J.old⟩
  · by_cases hx0 : x < 0
    · go_enter Tryz.func123, Tryz.ntmps123
      go_wp2
      exact bodyPost_ret (v := .agg #[.int .i64 0, .int .i64 0]) (by simp [results, Tryz.results123, go_sem]) rfl ⟨0, 0, rfl, by unfold Ir; omega, by unfold Ir; omega, .inr ⟨rfl, rfl⟩, J.old⟩
    · go_enter Tryz.func123, Tryz.ntmps123
      go_wp2_with fail
      with_reducible refine (HN.out _ J).mono ?_
      rintro e w1 ⟨rfl, J1⟩
      clear J HN
      have r0 := J1.r0
      have r1 := J1.r1
      have f0 := J1.res.frozen 0
      have f1 := J1.res.frozen 1
      go_wp2
      obtain ⟨s0, s1, s2⟩ := J1.end_ (.int .i64 0) (.int .i64 0)
      exact bodyPost_ret (v := .agg #[.int .i64 0, .int .i64 0]) (by simp [results, Tryz.results123, go_sem, s0, s1]) rfl ⟨0, 0, rfl, by unfold Ir; omega, by unfold Ir; omega, .inr ⟨rfl, rfl⟩, s2⟩

set_option maxHeartbeats 1000000 in
theorem longerRaw_last (E L S : Option Addr) (cE cL cS nE nL M : Nat) (N D f t : Int) (w : World) (h : RC w E L S cE cL nE nL M N) (hM : 2 ≤ M) (hx : whI f t nE = false) :
    Calls Tryz.prog 123 #[.agg #[.slice E nE cE, .int .i64 N, .int .i64 D, .slice L nL cL, .slice S M cS], .agg #[.int .i64 f, .int .i64 t], .int .i64 0] w (SomeS w) := by
  have J : LR w E L S cE cL cS nE nL M N D f t _ := LR.start h
  have hM2 := h.sM
  have hM3 : ¬ ((M : Int) - 1 ≤ 0) := by omega
  have HN := Lib.hid (fun W (hW : LR w E L S cE cL cS nE nL M N D f t W) => (numbers_raw E L S nE cE N D nL cL M cS W hM2).mono fun e w' hh => And.intro hh.1 (hW.on hh.2))
  have HW := Lib.hid (fun W (hW : LR w E L S cE cL cS nE nL M N D f t W) => (isWhole_raw E L S nE cE N D nL cL M cS f t W).mono fun e w' hh => And.intro hh.1 (hW.on hh.2))
  rw [hx] at HW
  clear h hx
  go_enter Tryz.func123, Tryz.ntmps123
  go_wp2_with fail
  with_reducible refine (HN.out _ J).mono ?_
  rintro e w1 ⟨rfl, J1⟩
  clear J HN
  have j0 := J1.c0
  have j1 := J1.c1
  have j2 := J1.c2
  have j3 := J1.c3
  have j4 := J1.c4
  have j5 := J1.s0
  have j6 := J1.s1
  go_wp2_with fail
  with_reducible refine (HW.out _ J1).mono ?_
  rintro e w2 ⟨rfl, J2⟩
  clear J1 HW j0 j1 j2 j3 j4 j5 j6
  have r0 := J2.r0
  have r1 := J2.r1
  have f0 := J2.res.frozen 0
  have f1 := J2.res.frozen 1
  go_wp2
  obtain ⟨s0, s1, s2⟩ := J2.end_ (.int .i64 0) (.int .i64 0)
  exact bodyPost_ret (v := .agg #[.int .i64 0, .int .i64 0]) (by simp [results, Tryz.results123, go_sem, s0, s1]) rfl ⟨0, 0, rfl, by unfold Ir; omega, by unfold Ir; omega, .inr ⟨rfl, rfl⟩, s2⟩

set_option maxHeartbeats 2000000 in
theorem longerRaw_in (E L S : Option Addr) (cE cL cS nE nL M : Nat) (N D f t : Int) (x : Int) (w : World) (h : RC w E L S cE cL nE nL M N) (hf : Ir f) (ht : Ir t) (hx : 0 < x) (hxl : x < (M : Int) - 1) :
    Calls Tryz.prog 123 #[.agg #[.slice E nE cE, .int .i64 N, .int .i64 D, .slice L nL cL, .slice S M cS], .agg #[.int .i64 f, .int .i64 t], .int .i64 x] w (SomeS w) := by
  have J : LR w E L S cE cL cS nE nL M N D f t _ := LR.start h
  have hM2 := h.sM
  have hiN := h.iN
  obtain ⟨g, hg⟩ := h.less
  have HN := Lib.hid (fun W (hW : LR w E L S cE cL cS nE nL M N D f t W) => (numbers_raw E L S nE cE N D nL cL M cS W hM2).mono fun e w' hh => And.intro hh.1 (hW.on hh.2))
  have hM3 : ¬ ((M : Int) - 1 ≤ x) := by omega
  have hMn : x < (M : Int) := by omega
  have hx1 : 0 ≤ x := by omega
  have hxM : x.toNat < M := by omega
  have z1 : (x == 0) = false := by simp; omega
  have z2 : ¬ (x < 0) := by omega
  obtain ⟨b', o, rfl, hbl, hc⟩ := hg (by omega)
  obtain ⟨q, hq⟩ : ∃ q, q = g (x : Int).toNat := ⟨_, rfl⟩
  have hc1 : w.cell? ⟨b', o + x.toNat, none⟩ = some (.int .i64 q) := by rw [hq]; exact hc (x : Int).toNat (by omega)
  have HC2 := Lib.hid (fun W (hW : LR w E L (some ⟨b', o, none⟩) cE cL cS nE nL M N D f t W) => (hW.old.cell (p := ⟨b', o + x.toNat, none⟩) hbl).trans hc1)
  have HF : Hid (∀ W, LR w E L (some ⟨b', o, none⟩) cE cL cS nE nL M N D f t W → Calls Tryz.prog 159 #[.agg #[.int .i64 N, .int .i64 D, .slice L nL cL], .int .i64 x, .int .i64 f] W fun e w' => ∃ a : Int, e = .returned (.int .i64 a) ∧ LR w E L (some ⟨b', o, none⟩) cE cL cS nE nL M N D f t w') := Lib.hid fun W hW => (wcountR hW.rc.lv N D cL x f hiN hf).mono fun e w' ⟨a, e1, _, e3⟩ => ⟨a, e1, hW.on e3⟩
  have HT : Hid (∀ W, LR w E L (some ⟨b', o, none⟩) cE cL cS nE nL M N D f t W → Calls Tryz.prog 159 #[.agg #[.int .i64 N, .int .i64 D, .slice L nL cL], .int .i64 x, .int .i64 t] W fun e w' => ∃ a : Int, e = .returned (.int .i64 a) ∧ LR w E L (some ⟨b', o, none⟩) cE cL cS nE nL M N D f t w') := Lib.hid fun W hW => (wcountR hW.rc.lv N D cL x t hiN ht).mono fun e w' ⟨a, e1, _, e3⟩ => ⟨a, e1, hW.on e3⟩
  clear h hg hc hq hc1 hbl hf ht hiN hx hxl
  go_enter Tryz.func123, Tryz.ntmps123
  go_wp2_with fail
  with_reducible refine (HN.out _ J).mono ?_
  rintro e w1 ⟨rfl, J1⟩
  clear J HN
  have j0 := J1.c0
  have j1 := J1.c1
  have j2 := J1.c2
  have j3 := J1.c3
  have j4 := J1.c4
  have j5 := J1.s0
  have j6 := J1.s1
  have hc := HC2.out _ J1
  have JD := J1.drew
  go_wp2_with fail
  go_region_held3 (fun w' => w'.cell? ⟨w.heap.size, 1, none⟩ = some (.int .i64 N) ∧ w'.cell? ⟨w.heap.size, 2, none⟩ = some (.int .i64 D) ∧ w'.cell? ⟨w.heap.size, 3, none⟩ = some (.slice L nL cL) ∧ w'.cell? ⟨w.heap.size, 4, none⟩ = some (.slice (some ⟨b', o, none⟩) M cS) ∧ w'.cell? ⟨w.heap.size + 1, 0, none⟩ = some (.int .i64 f) ∧ w'.cell? ⟨b', o + x.toNat, none⟩ = some (.int .i64 q)) (first | exact ⟨j1, j2, j3, j4, j5, hc⟩ | exact ⟨J3.c1, J3.c2, J3.c3, J3.c4, J3.s0, HC2.out _ J3⟩ | go_keep)
    (first
      | (go_at_call 159; (with_reducible refine (HF.out _ ?_).mono ?_); (first | assumption | exact JD); rintro e w3 ⟨a, rfl, J3⟩))
  clear HF j0 j1 j2 j3 j4 j5 j6 hc JD J1
  have j0 := J3.c0
  have j1 := J3.c1
  have j2 := J3.c2
  have j3 := J3.c3
  have j4 := J3.c4
  have j5 := J3.s0
  have j6 := J3.s1
  have hc := HC2.out _ J3
  have JD := J3.drew
  go_wp2_with fail
  go_region_held3 (fun w' => w'.cell? ⟨w.heap.size, 1, none⟩ = some (.int .i64 N) ∧ w'.cell? ⟨w.heap.size, 2, none⟩ = some (.int .i64 D) ∧ w'.cell? ⟨w.heap.size, 3, none⟩ = some (.slice L nL cL) ∧ w'.cell? ⟨w.heap.size, 4, none⟩ = some (.slice (some ⟨b', o, none⟩) M cS) ∧ w'.cell? ⟨w.heap.size + 1, 1, none⟩ = some (.int .i64 t) ∧ w'.cell? ⟨b', o + x.toNat, none⟩ = some (.int .i64 q)) (first | exact ⟨j1, j2, j3, j4, j6, hc⟩ | exact ⟨J4.c1, J4.c2, J4.c3, J4.c4, J4.s1, HC2.out _ J4⟩ | go_keep)
    (first
      | (go_at_call 159; (with_reducible refine (HT.out _ ?_).mono ?_); (first | assumption | exact JD); rintro e w4 ⟨b, rfl, J4⟩))
  clear HT j0 j1 j2 j3 j4 j5 j6 hc JD J3 HC2
  have r0 := J4.r0
  have r1 := J4.r1
  have f0 := J4.res.frozen 0
  have f1 := J4.res.frozen 1
  by_cases hz : wrap64 (q + b) ≤ wrap64 (q + a)
  · go_wp2
    obtain ⟨s0, s1, s2⟩ := J4.end_ (.int .i64 0) (.int .i64 0)
    exact bodyPost_ret (v := .agg #[.int .i64 0, .int .i64 0]) (by simp [results, Tryz.results123, go_sem, s0, s1]) rfl ⟨0, 0, rfl, by unfold Ir; omega, by unfold Ir; omega, .inr ⟨rfl, rfl⟩, s2⟩
  · go_wp2
    obtain ⟨s0, s1, s2⟩ := J4.end_ (.int .i64 (wrap64 (q + a))) (.int .i64 (wrap64 (q + b)))
    exact bodyPost_ret (v := .agg #[.int .i64 (wrap64 (q + a)), .int .i64 (wrap64 (q + b))]) (by simp [results, Tryz.results123, go_sem, s0, s1]) rfl ⟨_, _, rfl, ir_wrap64 _, ir_wrap64 _, .inl (by omega), s2⟩

set_option maxHeartbeats 2000000 in
theorem longerRaw_zero (E L S : Option Addr) (cE cL cS nE nL M : Nat) (N D f t : Int) (w : World) (h : RC w E L S cE cL nE nL M N) (hf : Ir f) (ht : Ir t) (hM : 2 ≤ M) (hwh : whI f t nE = true) :
    Calls Tryz.prog 123 #[.agg #[.slice E nE cE, .int .i64 N, .int .i64 D, .slice L nL cL, .slice S M cS], .agg #[.int .i64 f, .int .i64 t], .int .i64 0] w (SomeS w) := by
  have J : LR w E L S cE cL cS nE nL M N D f t _ := LR.start h
  have hM2 := h.sM
  have hiN := h.iN
  obtain ⟨g, hg⟩ := h.less
  have HN := Lib.hid (fun W (hW : LR w E L S cE cL cS nE nL M N D f t W) => (numbers_raw E L S nE cE N D nL cL M cS W hM2).mono fun e w' hh => And.intro hh.1 (hW.on hh.2))
  have hM3 : ¬ ((M : Int) - 1 ≤ 0) := by omega
  have hMn : 0 < M := by omega
  have HW := Lib.hid (fun W (hW : LR w E L S cE cL cS nE nL M N D f t W) => (isWhole_raw E L S nE cE N D nL cL M cS f t W).mono fun e w' hh => And.intro hh.1 (hW.on hh.2))
  rw [hwh] at HW
  obtain ⟨b', o, rfl, hbl, hc⟩ := hg (by omega)
  obtain ⟨q, hq⟩ : ∃ q, q = g (0 : Int).toNat := ⟨_, rfl⟩
  have hc1 : w.cell? ⟨b', o, none⟩ = some (.int .i64 q) := by rw [hq]; exact hc (0 : Int).toNat (by omega)
  have HC2 := Lib.hid (fun W (hW : LR w E L (some ⟨b', o, none⟩) cE cL cS nE nL M N D f t W) => (hW.old.cell (p := ⟨b', o, none⟩) hbl).trans hc1)
  have HF : Hid (∀ W, LR w E L (some ⟨b', o, none⟩) cE cL cS nE nL M N D f t W → Calls Tryz.prog 159 #[.agg #[.int .i64 N, .int .i64 D, .slice L nL cL], .int .i64 0, .int .i64 f] W fun e w' => ∃ a : Int, e = .returned (.int .i64 a) ∧ LR w E L (some ⟨b', o, none⟩) cE cL cS nE nL M N D f t w') := Lib.hid fun W hW => (wcountR hW.rc.lv N D cL 0 f hiN hf).mono fun e w' ⟨a, e1, _, e3⟩ => ⟨a, e1, hW.on e3⟩
  have HT : Hid (∀ W, LR w E L (some ⟨b', o, none⟩) cE cL cS nE nL M N D f t W → Calls Tryz.prog 159 #[.agg #[.int .i64 N, .int .i64 D, .slice L nL cL], .int .i64 0, .int .i64 t] W fun e w' => ∃ a : Int, e = .returned (.int .i64 a) ∧ LR w E L (some ⟨b', o, none⟩) cE cL cS nE nL M N D f t w') := Lib.hid fun W hW => (wcountR hW.rc.lv N D cL 0 t hiN ht).mono fun e w' ⟨a, e1, _, e3⟩ => ⟨a, e1, hW.on e3⟩
  clear h hg hc hq hc1 hbl hf ht hiN hwh
  go_enter Tryz.func123, Tryz.ntmps123
  go_wp2_with fail
  with_reducible refine (HN.out _ J).mono ?_
  rintro e w1 ⟨rfl, J1⟩
  clear J HN
  have j0 := J1.c0
  have j1 := J1.c1
  have j2 := J1.c2
  have j3 := J1.c3
  have j4 := J1.c4
  have j5 := J1.s0
  have j6 := J1.s1
  go_wp2_with fail
  with_reducible refine (HW.out _ J1).mono ?_
  rintro e w2 ⟨rfl, J2⟩
  clear J1 HW j0 j1 j2 j3 j4 j5 j6
  have j0 := J2.c0
  have j1 := J2.c1
  have j2 := J2.c2
  have j3 := J2.c3
  have j4 := J2.c4
  have j5 := J2.s0
  have j6 := J2.s1
  have J1 := J2
  clear J2
  have hc := HC2.out _ J1
  have JD := J1.drew
  go_wp2_with fail
  go_region_held3 (fun w' => w'.cell? ⟨w.heap.size, 1, none⟩ = some (.int .i64 N) ∧ w'.cell? ⟨w.heap.size, 2, none⟩ = some (.int .i64 D) ∧ w'.cell? ⟨w.heap.size, 3, none⟩ = some (.slice L nL cL) ∧ w'.cell? ⟨w.heap.size, 4, none⟩ = some (.slice (some ⟨b', o, none⟩) M cS) ∧ w'.cell? ⟨w.heap.size + 1, 0, none⟩ = some (.int .i64 f) ∧ w'.cell? ⟨b', o, none⟩ = some (.int .i64 q)) (first | exact ⟨j1, j2, j3, j4, j5, hc⟩ | exact ⟨J3.c1, J3.c2, J3.c3, J3.c4, J3.s0, HC2.out _ J3⟩ | go_keep)
    (first
      | (go_at_call 159; (with_reducible refine (HF.out _ ?_).mono ?_); (first | assumption | exact JD); rintro e w3 ⟨a, rfl, J3⟩))
  clear HF j0 j1 j2 j3 j4 j5 j6 hc JD J1
  have j0 := J3.c0
  have j1 := J3.c1
  have j2 := J3.c2
  have j3 := J3.c3
  have j4 := J3.c4
  have j5 := J3.s0
  have j6 := J3.s1
  have hc := HC2.out _ J3
  have JD := J3.drew
  go_wp2_with fail
  go_region_held3 (fun w' => w'.cell? ⟨w.heap.size, 1, none⟩ = some (.int .i64 N) ∧ w'.cell? ⟨w.heap.size, 2, none⟩ = some (.int .i64 D) ∧ w'.cell? ⟨w.heap.size, 3, none⟩ = some (.slice L nL cL) ∧ w'.cell? ⟨w.heap.size, 4, none⟩ = some (.slice (some ⟨b', o, none⟩) M cS) ∧ w'.cell? ⟨w.heap.size + 1, 1, none⟩ = some (.int .i64 t) ∧ w'.cell? ⟨b', o, none⟩ = some (.int .i64 q)) (first | exact ⟨j1, j2, j3, j4, j6, hc⟩ | exact ⟨J4.c1, J4.c2, J4.c3, J4.c4, J4.s1, HC2.out _ J4⟩ | go_keep)
    (first
      | (go_at_call 159; (with_reducible refine (HT.out _ ?_).mono ?_); (first | assumption | exact JD); rintro e w4 ⟨b, rfl, J4⟩))
  clear HT j0 j1 j2 j3 j4 j5 j6 hc JD J3 HC2
  have r0 := J4.r0
  have r1 := J4.r1
  have f0 := J4.res.frozen 0
  have f1 := J4.res.frozen 1
  by_cases hz : wrap64 (q + b) ≤ wrap64 (q + a)
  · go_wp2
    obtain ⟨s0, s1, s2⟩ := J4.end_ (.int .i64 0) (.int .i64 0)
    exact bodyPost_ret (v := .agg #[.int .i64 0, .int .i64 0]) (by simp [results, Tryz.results123, go_sem, s0, s1]) rfl ⟨0, 0, rfl, by unfold Ir; omega, by unfold Ir; omega, .inr ⟨rfl, rfl⟩, s2⟩
  · go_wp2
    obtain ⟨s0, s1, s2⟩ := J4.end_ (.int .i64 (wrap64 (q + a))) (.int .i64 (wrap64 (q + b)))
    exact bodyPost_ret (v := .agg #[.int .i64 (wrap64 (q + a)), .int .i64 (wrap64 (q + b))]) (by simp [results, Tryz.results123, go_sem, s0, s1]) rfl ⟨_, _, rfl, ir_wrap64 _, ir_wrap64 _, .inl (by omega), s2⟩

/-- LONGER of whatever index, span and sign -/
theorem longer_raw (E L S : Option Addr) (cE cL cS nE nL M : Nat) (N D f t : Int) (x : Int) (w : World) (h : RC w E L S cE cL nE nL M N) (hf : Ir f) (ht : Ir t) :
    Calls Tryz.prog 123 #[.agg #[.slice E nE cE, .int .i64 N, .int .i64 D, .slice L nL cL, .slice S M cS], .agg #[.int .i64 f, .int .i64 t], .int .i64 x] w (SomeS w) := by
  by_cases hx : x < 0 ∨ (M : Int) - 1 ≤ x
  · exact longerRaw_no E L S cE cL cS nE nL M N D f t x w h hx
  · by_cases h0 : x = 0
    · subst h0
      cases hw : whI f t nE
      · exact longerRaw_last E L S cE cL cS nE nL M N D f t w h (by omega) hw
      · exact longerRaw_zero E L S cE cL cS nE nL M N D f t w h hf ht (by omega) hw
    · exact longerRaw_in E L S cE cL cS nE nL M N D f t x w h hf ht (by omega) (by omega)

end Go.Proofs.YtoejenejleocdabGreatDoor

/- Of whatever index: Find answers some span. -/
namespace Go.Proofs.YtoejenejleocdabGreatDoor
open Go.RowKit Go.Shelf
attribute [local irreducible] Bt.pop Bt.popF
attribute [local go_sem] Oper.semAt_some

/-- a span that may come out: none, or from less than to -/
def Okay (f t : Int) : Prop := Ir f ∧ Ir t ∧ (f < t ∨ (f = 0 ∧ t = 0))

/-- block B holds whatever index; what was there in w0 is there still -/
structure CR (w0 : World) (B : Nat) (E L S : Option Addr) (cE cL cS nE nL M : Nat) (N D : Int) (W : World) : Prop where
  c0 : W.cell? ⟨B, 0, none⟩ = some (.slice E nE cE)
  c1 : W.cell? ⟨B, 1, none⟩ = some (.int .i64 N)
  c2 : W.cell? ⟨B, 2, none⟩ = some (.int .i64 D)
  c3 : W.cell? ⟨B, 3, none⟩ = some (.slice L nL cL)
  c4 : W.cell? ⟨B, 4, none⟩ = some (.slice S M cS)
  rc : RC W E L S cE cL nE nL M N
  lt : B < W.heap.size
  old : Below w0.heap.size w0 W
section
variable {w0 : World} {B : Nat} {E L S : Option Addr} {cE cL cS nE nL M : Nat} {N D : Int} {W W' : World}
theorem CR.on (h : CR w0 B E L S cE cL cS nE nL M N D W) (hb : Below W.heap.size W W') : CR w0 B E L S cE cL cS nE nL M N D W' :=
  ⟨(hb.cell (p := ⟨B, 0, none⟩) h.lt).trans h.c0, (hb.cell (p := ⟨B, 1, none⟩) h.lt).trans h.c1, (hb.cell (p := ⟨B, 2, none⟩) h.lt).trans h.c2, (hb.cell (p := ⟨B, 3, none⟩) h.lt).trans h.c3, (hb.cell (p := ⟨B, 4, none⟩) h.lt).trans h.c4,
    h.rc.on hb, Nat.lt_of_lt_of_le h.lt hb.size, h.old.trans (hb.mono h.old.size)⟩
theorem CR.drew (h : CR w0 B E L S cE cL cS nE nL M N D W) : CR w0 B E L S cE cL cS nE nL M N D W.drew := h.on (Below.refl _ _).drew
theorem CR.start (h : RC W E L S cE cL nE nL M N) (cS : Nat) (D : Int) (hb : Below w0.heap.size w0 W) (t : TypeId) :
    CR w0 W.heap.size E L S cE cL cS nE nL M N D (W.alloc (.cells #[.slice E nE cE, .int .i64 N, .int .i64 D, .slice L nL cL, .slice S M cS] t)) :=
  ⟨by simp, by simp, by simp, by simp, by simp, h.on ((Below.refl _ _).alloc (Nat.le_refl _) _), by simp, hb.alloc hb.size _⟩
end

set_option maxHeartbeats 1000000 in
theorem findRaw_last (E L S A : Option Addr) (cE cL cS nE nL M c : Nat) (N D : Int) (s : List Int) (w : World) (hr : IRow w w.heap.size A s) (hcap : s.length ≤ c) (hs : s.length ≤ 17592186044416) (hl : lastIn s = true) :
    Calls Tryz.prog 90 #[.agg #[.slice E nE cE, .int .i64 N, .int .i64 D, .slice L nL cL, .slice S M cS], .slice A s.length c] w (SomeS w) := by
  have hb : Below w.heap.size w ((w.alloc (.cells #[.slice E nE cE, .int .i64 N, .int .i64 D, .slice L nL cL, .slice S M cS] 33)).alloc (.cells #[.int .i64 0, .int .i64 0] 115)) := ((Below.refl _ _).alloc (Nat.le_refl _) _).alloc (by simp) _
  have HL := Lib.hid (hasLast_any A c s _ (hr.on hb) hcap hs)
  rw [hl] at HL
  clear hr hl
  generalize s.length = n at *
  go_enter Tryz.func90, Tryz.ntmps90
  go_wp2_with fail
  with_reducible refine HL.out.mono ?_
  rintro e w' ⟨rfl, rfl⟩
  clear HL
  go_wp2
  exact bodyPost_ret (v := .agg #[.int .i64 0, .int .i64 0]) (by simp [results, Tryz.results90, go_sem]) rfl ⟨0, 0, rfl, by unfold Ir; omega, by unfold Ir; omega, .inr ⟨rfl, rfl⟩, hb⟩

/-- the span so far, in a block of its own -/
structure SpR (w1 : World) (f t : Int) (W : World) : Prop where
  row : W.rowIs w1.heap.size 115 2 (grpI f t)
  old : Below w1.heap.size w1 W
  big : w1.heap.size + 2 ≤ W.heap.size
theorem SpR.on {w1 : World} {f t : Int} {W W' : World} (h : SpR w1 f t W) (hb : Below W.heap.size W W') : SpR w1 f t W' := ⟨h.row.of_block (hb.block _ h.row.lt), h.old.trans (hb.mono h.old.size), Nat.le_trans h.big hb.size⟩
theorem SpR.c0 {w1 : World} {f t : Int} {W : World} (h : SpR w1 f t W) : W.cell? ⟨w1.heap.size, 0, none⟩ = some (.int .i64 f) := h.row.cell (i := 0) (by omega)
theorem SpR.c1 {w1 : World} {f t : Int} {W : World} (h : SpR w1 f t W) : W.cell? ⟨w1.heap.size, 1, none⟩ = some (.int .i64 t) := h.row.cell (i := 1) (by omega)
theorem SpR.own {w1 : World} {f t : Int} {W W' : World} {row : Option Nat} (h : SpR w1 f t W) (hg : W.grownBy W' row) (hr : ∀ r, row = some r → ∃ o : Obj, W.heap[r]? = some o ∧ o.isCells = false) (hw : ∀ r, row = some r → w1.heap.size ≤ r) : SpR w1 f t W' := by
  obtain ⟨c, hc, _⟩ := h.row
  exact ⟨h.row.of_block (grownBy_keeps_cells hg hr hc rfl), h.old.grown hg h.old.size hw, Nat.le_trans h.big hg.size⟩
theorem SpR.set {w1 : World} {f t : Int} {W : World} (h : SpR w1 f t W) (a b : Int) : SpR w1 a b ((W.setCell ⟨w1.heap.size, 0, none⟩ (.int .i64 a)).setCell ⟨w1.heap.size, 1, none⟩ (.int .i64 b)) :=
  ⟨((h.row.set 0 _).set 1 _).congr (fun i hi => by
    match i, hi with
    | 0, _ => rfl
    | 1, _ => rfl), (h.old.setCell (Nat.le_refl _) _).setCell (Nat.le_refl _) _, by simpa using h.big⟩
/-- some span so far -/
def SpE (w1 : World) (W : World) : Prop := ∃ f t : Int, Okay f t ∧ SpR w1 f t W

set_option maxRecDepth 100000 in
set_option maxHeartbeats 2000000 in
theorem findRaw_loop (E L S A : Option Addr) (cE cL cS nE nL M c : Nat) (N D0 : Int) (s : List Int) (w : World) (h : RC w E L S cE cL nE nL M N) (hr : IRow w w.heap.size A s) (hcap : s.length ≤ c) (hs : s.length ≤ 17592186044416) (hl : lastIn s = false) :
    Calls Tryz.prog 90 #[.agg #[.slice E nE cE, .int .i64 N, .int .i64 D0, .slice L nL cL, .slice S M cS], .slice A s.length c] w (SomeS w) := by
  have hb : Below w.heap.size w ((w.alloc (.cells #[.slice E nE cE, .int .i64 N, .int .i64 D0, .slice L nL cL, .slice S M cS] 33)).alloc (.cells #[.int .i64 0, .int .i64 0] 115)) := ((Below.refl _ _).alloc (Nat.le_refl _) _).alloc (by simp) _
  have HL := Lib.hid (hasLast_any A c s _ (hr.on hb) hcap hs)
  rw [hl] at HL
  have HW := Lib.hid (fun W => combWhole_raw E L S nE cE N D0 nL cL M cS W)
  have hsE := h.sE
  clear hl
  refine (callsIn_wide (n := 3)).1 ?_
  refine callsIn_of_wp_marks Tryz.func90 rfl trivial ?_ rfl
  simp only [Tryz.ntmps90, List.size_toArray, List.length_cons, List.length_nil, Nat.reduceAdd, Nat.reduceSub, Array.replicate_succ, Array.replicate_zero, List.push_toArray, List.append_toArray, List.nil_append, List.cons_append]
  gi_wp2_with (first
    | (refine ⟨trivial, ?_⟩; gi_at_call 120; refine (callsIn_wide.2 HL.out).mono ?_; rintro e w' ⟨rfl, rfl⟩)
    | (refine ⟨trivial, ?_⟩; gi_at_call 121; refine (callsIn_wide.2 (HW.out _)).mono ?_; rintro e w1 ⟨rfl, hb1⟩)
    | (refine ⟨trivial, ?_⟩; gi_at_call 122; refine (backward_in Fence.wide _ trivial rfl _ _ _ _).mono ?_; rintro e w' ⟨rfl, rfl⟩))
  clear HL HW
  obtain ⟨V0, hV0⟩ : ∃ V0, V0 = (w.alloc (.cells #[.slice E nE cE, .int .i64 N, .int .i64 D0, .slice L nL cL, .slice S M cS] 33)).alloc (.cells #[.int .i64 0, .int .i64 0] 115) := ⟨_, rfl⟩
  have hcb : CR w w.heap.size E L S cE cL cS nE nL M N D0 V0 := by
    rw [hV0]
    exact (CR.start h cS D0 (Below.refl _ _) 33).on ((Below.refl _ _).alloc (Nat.le_refl _) _)
  have hres : V0.rowIs (w.heap.size + 1) 115 2 (grpI 0 0) := by
    have := grpI_alloc (w.alloc (.cells #[.slice E nE cE, .int .i64 N, .int .i64 D0, .slice L nL cL, .slice S M cS] 33)) 0 0 115
    rw [World.size_alloc] at this
    rw [hV0]
    exact this
  rw [← hV0] at hb hb1
  have hcb1 := hcb.on hb1
  have hres1 := hres.of_block (hb1.block _ hres.lt)
  have hlt1 := hcb1.lt
  have hlt2 := hres1.lt
  have hrow : IRow w1 w1.heap.size A s := hr.on hcb1.old
  have HLg : Hid (∀ (W : World) (f t : Int) (x : Int), Below w1.heap.size w1 W → Okay f t → Calls Tryz.prog 123 #[.agg #[.slice E nE cE, .int .i64 N, .int .i64 D0, .slice L nL cL, .slice S M cS], .agg #[.int .i64 f, .int .i64 t], .int .i64 x] W (SomeS W)) :=
    Lib.hid fun W f t x hW hf => longer_raw E L S cE cL cS nE nL M N D0 f t x W (hcb1.on hW).rc hf.1 hf.2.1
  have HC : Hid (∀ W, Below w1.heap.size w1 W → CR w w.heap.size E L S cE cL cS nE nL M N D0 W) := Lib.hid fun W hW => hcb1.on hW
  have HRs : Hid (∀ W, Below w1.heap.size w1 W → W.rowIs (w.heap.size + 1) 115 2 (grpI 0 0)) := Lib.hid fun W hW => hres1.of_block (hW.block _ hres1.lt)
  have hold := Lib.hid hcb1.old
  obtain ⟨V, hV⟩ : ∃ V, V = (w1.alloc (.cells #[.int .i64 0, .int .i64 nE] 115)).alloc (.cells #[.slice A s.length c] 22) := ⟨_, rfl⟩
  have hbV : Below w1.heap.size w1 V := by rw [hV]; exact ((Below.refl _ _).alloc (Nat.le_refl _) _).alloc (by simp) _
  have hszV : V.heap.size = w1.heap.size + 2 := by rw [hV]; simp
  have hsV : V.rowIs w1.heap.size 115 2 (grpI 0 nE) := by
    have h1 := grpI_alloc w1 0 nE 115
    rw [hV]
    exact h1.of_block (((Below.refl _ _).alloc (Nat.le_refl _) _).block _ h1.lt)
  have hxV : V.cell? ⟨w1.heap.size + 1, 0, none⟩ = some (.slice A s.length c) := by rw [hV]; simp
  have hOk : Okay 0 nE := ⟨by unfold Ir; omega, by unfold Ir; omega, by omega⟩
  rw [← hV]
  clear hV hV0 hcb hres hb hb1 h hr
  have hrV : IRow V w1.heap.size A s := hrow.below hbV
  refine wpIn_rangeFunc_ownG rfl (by omega) (gf := 157) (lb := #[.pointer (some ⟨w1.heap.size + 1, 0, none⟩)]) rfl trivial (enters_of Tryz.func157 (by kernel_rfl) rfl)
    (backward_stops Fence.wide _ trivial rfl (by omega) (w1.heap.size + 1) w1.heap.size A c s hs V (by omega) (by omega) hxV hrV) KC.t (KC.b (by omega) (by omega)) (Below.refl _ _) (fun _ => rfl)
    (fun _ W => SpE w1 W) (fun cd _ W => cd = .exit 0 ∧ SpR w1 0 0 W)
    (fun pre X Y row ⟨f, t, ho, hh⟩ hg hrw => ⟨f, t, ho, hh.own hg (fun r e => (hrw r e).2) (fun r e => by have := (hrw r e).1; omega)⟩) (fun cd pre X Y row hh hg hrw => ⟨hh.1, hh.2.own hg (fun r e => (hrw r e).2) (fun r e => by have := (hrw r e).1; omega)⟩)
    ⟨0, nE, hOk, hsV, hbV, by omega⟩
    (fun x => { tmps := #[.agg #[.slice E nE cE, .int .i64 N, .int .i64 D0, .slice L nL cL, .slice S M cS], .slice A s.length c, .pointer (some ⟨w.heap.size, 0, none⟩), undef, .pointer (some ⟨w.heap.size + 1, 0, none⟩), .pointer (some ⟨w1.heap.size, 0, none⟩), undef, .int .i64 x.2, .slice A s.length c, .bool false, undef, .agg #[.slice E nE cE, .int .i64 N, .int .i64 D0, .slice L nL cL, .slice S M cS], .agg #[.int .i64 0, .int .i64 nE], .slice A s.length c, .func (.func 157) #[] #[.pointer (some ⟨w1.heap.size + 1, 0, none⟩)], .int .i64 (x.1 : Int), .int .i64 x.2, undef, undef, undef, undef, undef, undef, undef, undef], defers := [] }) ?assign ?body ?done ?stop
  case assign =>
    intro l x W K hK
    gi_wp2
    exact hK
  case body =>
    rintro r pre x W ⟨f, t, ho, hF⟩ _
    obtain ⟨i, y⟩ := x
    dsimp only at *
    have HG := Lib.hid (HLg.out W f t y hF.old ho)
    clear HLg ho hOk
    have k0 := hF.row.cell (i := 0) (by omega)
    have k1 := hF.row.cell (i := 1) (by omega)
    have j0 : W.cell? ⟨w1.heap.size, 0, none⟩ = some (.int .i64 f) := k0
    have j1 : W.cell? ⟨w1.heap.size, 1, none⟩ = some (.int .i64 t) := k1
    have J := HC.out W hF.old
    have c0 := J.c0
    have c1 := J.c1
    have c2 := J.c2
    have c3 := J.c3
    have c4 := J.c4
    clear k0 k1 J HC HRs
    gi_wp2_with fail
    refine ⟨trivial, ?_⟩
    gi_at_call 123
    refine (CallsIn.inRound r (callsIn_wide.2 HG.out)).mono ?_
    rintro e W2 ⟨a, b, rfl, ia, ib, hab, hb2⟩
    have d0 := (hF.on hb2).c0
    have d1 := (hF.on hb2).c1
    have g0 := (hF.on hb2).row.frozen 0
    have g1 := (hF.on hb2).row.frozen 1
    by_cases ha : a = 0
    · subst ha
      by_cases hb : b = 0
      · subst hb
        gi_wp2
        exact ⟨((KeepsOthers.of_below hb2).trans ((KeepsOthers.setCell _ _ _).trans (KeepsOthers.setCell _ _ _))).from _, rfl, (hF.on hb2).set 0 0⟩
      · have hz : (b == 0) = false := by simp; omega
        gi_wp2
        exact ⟨((KeepsOthers.of_below hb2).trans ((KeepsOthers.setCell _ _ _).trans (KeepsOthers.setCell _ _ _))).from _, ((KC.below hb2 hF.old.size (by have := hF.big; omega)).set ⟨w1.heap.size, 0, none⟩ _ (Nat.le_refl _) (by show w1.heap.size ≠ w1.heap.size + 1; omega)).set ⟨w1.heap.size, 1, none⟩ _ (Nat.le_refl _) (by show w1.heap.size ≠ w1.heap.size + 1; omega), 0, b, ⟨ia, ib, by omega⟩, (hF.on hb2).set 0 b⟩
    · have hz : (a == 0) = false := by simp; omega
      gi_wp2
      exact ⟨((KeepsOthers.of_below hb2).trans ((KeepsOthers.setCell _ _ _).trans (KeepsOthers.setCell _ _ _))).from _, ((KC.below hb2 hF.old.size (by have := hF.big; omega)).set ⟨w1.heap.size, 0, none⟩ _ (Nat.le_refl _) (by show w1.heap.size ≠ w1.heap.size + 1; omega)).set ⟨w1.heap.size, 1, none⟩ _ (Nat.le_refl _) (by show w1.heap.size ≠ w1.heap.size + 1; omega), a, b, ⟨ia, ib, hab⟩, (hF.on hb2).set a b⟩
  case done =>
    rintro D ys Wd hD rfl ⟨a, b, ho, hF⟩ hK
    have HOld := Lib.hid (hold.out.trans (hF.old.mono hold.out.size))
    have hR := HRs.out Wd hF.old
    clear HLg HC HRs hrV hrow hsV hbV hxV hOk
    have d0 := hF.c0
    have d1 := hF.c1
    have r0 : Wd.cell? ⟨w.heap.size + 1, 0, none⟩ = some (.int .i64 0) := hR.cell (i := 0) (by omega)
    have r1 : Wd.cell? ⟨w.heap.size + 1, 1, none⟩ = some (.int .i64 0) := hR.cell (i := 1) (by omega)
    have g0 := hR.frozen 0
    have g1 := hR.frozen 1
    have HO := Lib.hid ho
    clear ho
    gi_wp2
    have hK2 := ((KeepsOthers.setCell Wd ⟨w.heap.size + 1, 0, none⟩ (.int .i64 a)).trans (KeepsOthers.setCell _ ⟨w.heap.size + 1, 1, none⟩ (.int .i64 b))).same D _ hK rfl
    refine ⟨by simp, .inl ⟨_, _, rfl, run_takeDeferred hK2, ?_⟩⟩
    have s2 := set2 hR (.int .i64 a) (.int .i64 b)
    have c5 := cell_kept s2.1 (grownBy_putObj' _ D (.deferred none)) (fun r e => by cases e; exact ⟨_, hK2, rfl⟩)
    have c6 := cell_kept s2.2 (grownBy_putObj' _ D (.deferred none)) (fun r e => by cases e; exact ⟨_, hK2, rfl⟩)
    refine ⟨.agg #[.int .i64 a, .int .i64 b], ?_, a, b, rfl, HO.out.1, HO.out.2.1, HO.out.2.2, ?_⟩
    · simp [results, Tryz.f90, go_sem, c5, c6]
    · exact ((HOld.out.setCell (by show w.heap.size ≤ w.heap.size + 1; omega) _).setCell (by show w.heap.size ≤ w.heap.size + 1; omega) _).trans (belowK_b (w := w) (Nat.le_refl _) _ D _ _ (by omega) hK2 rfl rfl)
  case stop =>
    rintro D cd pre Wd hD ⟨k, hk, rfl⟩ ⟨rfl, hF⟩ hK
    have HOld := Lib.hid (hold.out.trans (hF.old.mono hold.out.size))
    have hR := HRs.out Wd hF.old
    clear HLg HC HRs hrV hrow hsV hbV hxV hOk
    have d0 := hF.c0
    have d1 := hF.c1
    have r0 : Wd.cell? ⟨w.heap.size + 1, 0, none⟩ = some (.int .i64 0) := hR.cell (i := 0) (by omega)
    have r1 : Wd.cell? ⟨w.heap.size + 1, 1, none⟩ = some (.int .i64 0) := hR.cell (i := 1) (by omega)
    have g0 := hR.frozen 0
    have g1 := hR.frozen 1
    gi_wp2
    have hK2 := ((KeepsOthers.setCell Wd ⟨w.heap.size + 1, 0, none⟩ (.int .i64 0)).trans (KeepsOthers.setCell _ ⟨w.heap.size + 1, 1, none⟩ (.int .i64 0))).same D _ hK rfl
    refine ⟨by simp, .inl ⟨_, _, rfl, run_takeDeferred hK2, ?_⟩⟩
    have s2 := set2 hR (.int .i64 0) (.int .i64 0)
    have c5 := cell_kept s2.1 (grownBy_putObj' _ D (.deferred none)) (fun r e => by cases e; exact ⟨_, hK2, rfl⟩)
    have c6 := cell_kept s2.2 (grownBy_putObj' _ D (.deferred none)) (fun r e => by cases e; exact ⟨_, hK2, rfl⟩)
    refine ⟨.agg #[.int .i64 0, .int .i64 0], ?_, 0, 0, rfl, by unfold Ir; omega, by unfold Ir; omega, .inr ⟨rfl, rfl⟩, ?_⟩
    · simp [results, Tryz.f90, go_sem, c5, c6]
    · exact ((HOld.out.setCell (by show w.heap.size ≤ w.heap.size + 1; omega) _).setCell (by show w.heap.size ≤ w.heap.size + 1; omega) _).trans (belowK_b (w := w) (Nat.le_refl _) _ D _ _ (by omega) hK2 rfl rfl)

/-- FIND of whatever index -/
theorem find_raw (E L S A : Option Addr) (cE cL cS nE nL M c : Nat) (N D : Int) (s : List Int) (w : World) (h : RC w E L S cE cL nE nL M N) (hr : IRow w w.heap.size A s) (hcap : s.length ≤ c) (hs : s.length ≤ 17592186044416) :
    Calls Tryz.prog 90 #[.agg #[.slice E nE cE, .int .i64 N, .int .i64 D, .slice L nL cL, .slice S M cS], .slice A s.length c] w (SomeS w) := by
  cases hl : lastIn s
  · exact findRaw_loop E L S A cE cL cS nE nL M c N D s w h hr hcap hs hl
  · exact findRaw_last E L S A cE cL cS nE nL M c N D s w hr hcap hs hl

end Go.Proofs.YtoejenejleocdabGreatDoor

/- Of whatever index: Count answers some number. -/
namespace Go.Proofs.YtoejenejleocdabGreatDoor
open Go.RowKit
attribute [local irreducible] Bt.pop Bt.popF

theorem CR.find {w0 : World} {B : Nat} {E L S : Option Addr} {cE cL cS nE nL M : Nat} {N D : Int} {W : World} (h : CR w0 B E L S cE cL cS nE nL M N D W) (A : Option Addr) (c : Nat) (s : List Int) (hr : IRow W W.heap.size A s) (hcap : s.length ≤ c) (hs : s.length ≤ 17592186044416) :
    Calls Tryz.prog 90 #[.agg #[.slice E nE cE, .int .i64 N, .int .i64 D, .slice L nL cL, .slice S M cS], .slice A s.length c] W (SomeS W) :=
  find_raw E L S A cE cL cS nE nL M c N D s W h.rc hr hcap hs

set_option maxHeartbeats 1000000 in
theorem combCount_raw (E L S A : Option Addr) (cE cL cS nE nL M c : Nat) (N D : Int) (s : List Int) (w : World) (h : RC w E L S cE cL nE nL M N) (hr : IRow w w.heap.size A s) (hcap : s.length ≤ c) (hs : s.length ≤ 17592186044416) :
    Calls Tryz.prog 53 #[.agg #[.slice E nE cE, .int .i64 N, .int .i64 D, .slice L nL cL, .slice S M cS], .slice A s.length c] w (SomeI w) := by
  have hb := (Below.refl _ w).alloc (Nat.le_refl _) (.cells #[.slice E nE cE, .int .i64 N, .int .i64 D, .slice L nL cL, .slice S M cS] 33)
  have J : CR w w.heap.size E L S cE cL cS nE nL M N D _ := CR.start h cS D (Below.refl _ _) 33
  have HF := Lib.hid (J.find A c s (hr.on hb) hcap hs)
  clear h hr J
  generalize s.length = n at *
  go_enter Tryz.func53, Tryz.ntmps53
  go_wp2_with fail
  with_reducible refine HF.out.mono ?_
  rintro e w1 ⟨a, b, rfl, ia, ib, hab, hb1⟩
  have hb2 := hb.trans (hb1.mono hb.size)
  clear HF hb hb1
  go_wp2
  go_ret
  exact ⟨_, rfl, ir_wrap64 _, hb2.alloc hb2.size _⟩

end Go.Proofs.YtoejenejleocdabGreatDoor

/- Of an index of nothing (the zero value): Find answers no span, Count 0. -/
namespace Go.Proofs.YtoejenejleocdabGreatDoor
open Go.RowKit Go.Shelf
attribute [local irreducible] Bt.pop Bt.popF
attribute [local go_sem] Oper.semAt_some

end Go.Proofs.YtoejenejleocdabGreatDoor
