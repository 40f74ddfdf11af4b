import Derived.Test.YtoejenejleocdabGreatDoorJa
import Derived.Test.YtoejenejleocdabGreatDoorJb
import Derived.Shelf.Abstract
import Derived.Deep.DeepCutAuto
import Derived.Deep.CutRange
import Derived.Deep.RegionLaw
/- The leaves of package wave: mayBeDeep, hasOne, longer, whole; where a group's halves stand: having, half. -/
namespace Go.Proofs.YtoejenejleocdabGreatDoor
open Go.RowKit
attribute [local irreducible] Bt.pop Bt.popF

/-- may there be so many levels? -/
def deepOk (d : Int) : Bool := decide (1 ≤ d ∧ d ≤ 16)
theorem deepOk_yes (d : Int) (h1 : 1 ≤ d) (h2 : d ≤ 16) : deepOk d = true := by unfold deepOk; simp; omega
theorem deepOk_no (d : Int) (h : d < 1 ∨ 16 < d) : deepOk d = false := by unfold deepOk; simp; omega

theorem mayBeDeep_any (d : Int) (w : World) : Calls Tryz.prog 74 #[.int .i64 d] w fun e w' => e = .returned (.bool (deepOk d)) ∧ w = w' := by
  by_cases h1 : 1 ≤ d
  · have HH := Lib.hid (show deepOk d = decide (d ≤ 16) by unfold deepOk; simp [h1])
    go_enter Tryz.func74, Tryz.ntmps74
    go_wp2
    go_ret
    exact ⟨by rw [HH.out]; rfl, rfl⟩
  · have HH := Lib.hid (deepOk_no d (by omega))
    go_enter Tryz.func74, Tryz.ntmps74
    go_wp2
    go_ret
    exact ⟨by rw [HH.out]; rfl, rfl⟩

theorem and_one_i64 (a : Nat) (ha : a < 9223372036854775808) : bits .and .i64 (a : Int) 1 = ((a % 2 : Nat) : Int) := by
  have h1 : (BitVec.ofInt 64 (a : Int)).toNat = a := by
    rw [BitVec.ofInt_natCast, BitVec.toNat_ofNat]; exact Nat.mod_eq_of_lt (by omega)
  have h2 : (BitVec.ofInt 64 (1 : Int)).toNat = 1 := by decide
  show IntKind.i64.wrap ((BitVec.ofInt 64 (a : Int) &&& BitVec.ofInt 64 (1 : Int)).toNat : Int) = _
  rw [BitVec.toNat_and, h1, h2, Nat.and_one_is_mod, IntKind.wrap_i64]
  omega
theorem bit_i64 (n s : Nat) (hn : n < 9223372036854775808) : (bits .and .i64 ((n : Int) / 2 ^ s) 1 == 1) = Wv.bit s n := by
  have e : ((n : Int) / 2 ^ s) = ((n / 2 ^ s : Nat) : Int) := by simp
  have hle : n / 2 ^ s ≤ n := Nat.div_le_self _ _
  rw [e, and_one_i64 _ (by omega)]
  unfold Wv.bit
  rw [Bool.eq_iff_iff]; simp only [beq_iff_eq]; omega

set_option maxHeartbeats 400000 in
theorem hasOne_any (n d k : Nat) (w : World) (hn : n < 9223372036854775808) (hd : d ≤ 16) (hk : k < d) :
    Calls Tryz.prog 77 #[.int .i64 n, .int .i64 d, .int .i64 k] w fun e w' => e = .returned (.bool (Wv.bit (d - 1 - k) n)) ∧ w = w' := by
  have HB := Lib.hid (bit_i64 n (d - 1 - k) hn)
  have v1 : ((d : Int) - 1 - (k : Int)).toNat = d - 1 - k := by omega
  go_enter Tryz.func77, Tryz.ntmps77
  go_wp2
  go_ret
  refine ⟨ret_bool ?_, rfl⟩
  rw [← HB.out]

theorem longer_any (p : Nat) (one : Bool) (w : World) (hp : p < 4611686018427387903) :
    Calls Tryz.prog 220 #[.int .i64 p, .bool one] w fun e w' => e = .returned (.int .i64 (Wv.kid p one : Nat)) ∧ w = w' := by
  cases one
  · go_enter Tryz.func220, Tryz.ntmps220
    go_wp2
    go_ret
    exact ⟨ret_int (by simp [Wv.kid]), rfl⟩
  · go_enter Tryz.func220, Tryz.ntmps220
    go_wp2
    go_ret
    exact ⟨ret_int (by simp [Wv.kid]), rfl⟩

/-- two cells stored one behind the other -/
theorem set2 {w : World} {b : Nat} {t : TypeId} {f : Nat → Value} (h : w.rowIs b t 2 f) (v0 v1 : Value) :
    ((w.setCell ⟨b, 0, none⟩ v0).setCell ⟨b, 1, none⟩ v1).cell? ⟨b, 0, none⟩ = some v0 ∧ ((w.setCell ⟨b, 0, none⟩ v0).setCell ⟨b, 1, none⟩ v1).cell? ⟨b, 1, none⟩ = some v1 :=
  ⟨((h.set 0 v0).set 1 v1).cell (by omega), ((h.set 0 v0).set 1 v1).cell (by omega)⟩

set_option maxHeartbeats 400000 in
theorem whole_any (N D : Int) (A : Option Addr) (n c : Nat) (w : World) :
    Calls Tryz.prog 196 #[.agg #[.int .i64 N, .int .i64 D, .slice A n c]] w fun e w' => e = .returned (.agg #[.int .i64 0, .int .i64 N]) ∧ Below w.heap.size w w' := by
  go_enter Tryz.func196, Tryz.ntmps196
  go_wp2
  refine bodyPost_ret (v := .agg #[.int .i64 0, .int .i64 N]) (by simp [results, Tryz.results196, go_sem]) rfl ⟨rfl, ?_⟩
  exact ((Below.refl _ _).alloc (Nat.le_refl _) _).alloc (by simp) _

/-- a group and bits in two blocks of a function's own -/
structure HB (w : World) (F T : Int) (bs : List Bool) (A1 A2 : Option Addr) (c1 c2 m : Nat) (W : World) : Prop where
  g0 : W.cell? ⟨w.heap.size, 0, none⟩ = some (.int .i64 F)
  g1 : W.cell? ⟨w.heap.size, 1, none⟩ = some (.int .i64 T)
  b0 : W.cell? ⟨w.heap.size + 1, 0, none⟩ = some (.int .i64 bs.length)
  b1 : W.cell? ⟨w.heap.size + 1, 1, none⟩ = some (.slice A1 m c1)
  b2 : W.cell? ⟨w.heap.size + 1, 2, none⟩ = some (.slice A2 m c2)
  made : IsBits W W.heap.size A1 A2 bs
  parts : m = bs.length / 64 + 1
  small : bs.length ≤ 9223372036854775807
  old : Below w.heap.size w W
  big : w.heap.size + 2 ≤ W.heap.size
section
variable {w : World} {F T : Int} {bs : List Bool} {A1 A2 : Option Addr} {c1 c2 m : Nat} {W W' : World}
theorem HB.on (h : HB w F T bs A1 A2 c1 c2 m W) (hb : Below W.heap.size W W') : HB w F T bs A1 A2 c1 c2 m W' := by
  have := h.big
  exact ⟨(hb.cell (p := ⟨w.heap.size, 0, none⟩) (by simp; omega)).trans h.g0, (hb.cell (p := ⟨w.heap.size, 1, none⟩) (by simp; omega)).trans h.g1,
    (hb.cell (p := ⟨w.heap.size + 1, 0, none⟩) (by simp; omega)).trans h.b0, (hb.cell (p := ⟨w.heap.size + 1, 1, none⟩) (by simp; omega)).trans h.b1, (hb.cell (p := ⟨w.heap.size + 1, 2, none⟩) (by simp; omega)).trans h.b2,
    (h.made.below hb).more hb.size, h.parts, h.small, h.old.trans (hb.mono h.old.size), Nat.le_trans h.big hb.size⟩
theorem HB.drew (h : HB w F T bs A1 A2 c1 c2 m W) : HB w F T bs A1 A2 c1 c2 m W.drew := h.on (Below.refl _ _).drew
theorem HB.start (hI : IsBits w w.heap.size A1 A2 bs) (hm : m = bs.length / 64 + 1) (hs : bs.length ≤ 9223372036854775807) (t t' : TypeId) :
    HB w F T bs A1 A2 c1 c2 m ((w.alloc (.cells #[.int .i64 F, .int .i64 T] t)).alloc (.cells #[.int .i64 bs.length, .slice A1 m c1, .slice A2 m c2] t')) :=
  ⟨by simp, by simp, by simp, by simp, by simp, (hI.alloc _).alloc _, hm, hs, ((Below.refl _ _).alloc (Nat.le_refl _) _).alloc (by simp) _, by simp⟩
theorem HB.ones (h : HB w F T bs A1 A2 c1 c2 m W) (i : Int) : Calls Tryz.prog 213 #[.agg #[.int .i64 bs.length, .slice A1 m c1, .slice A2 m c2], .int .i64 i] W fun e w' => e = .returned (.int .i64 (oI bs i)) ∧ HB w F T bs A1 A2 c1 c2 m w' :=
  (ones_made bs i A1 m c1 A2 m c2 W h.made h.parts h.parts h.small).mono fun _ _ ⟨he, hb⟩ => ⟨he, h.on hb⟩
theorem HB.noughts (h : HB w F T bs A1 A2 c1 c2 m W) (i : Int) : Calls Tryz.prog 214 #[.agg #[.int .i64 bs.length, .slice A1 m c1, .slice A2 m c2], .int .i64 i] W fun e w' => e = .returned (.int .i64 (nI bs i)) ∧ HB w F T bs A1 A2 c1 c2 m w' :=
  (noughts_made bs i A1 m c1 A2 m c2 W h.made h.parts h.parts h.small).mono fun _ _ ⟨he, hb⟩ => ⟨he, h.on hb⟩
end

attribute [local irreducible] oI nI

set_option maxHeartbeats 1000000 in
theorem having_one (F T first X R : Int) (bs : List Bool) (A1 A2 : Option Addr) (c1 c2 m : Nat) (w : World) (hI : IsBits w w.heap.size A1 A2 bs) (hm : m = bs.length / 64 + 1) (hs : bs.length ≤ 9223372036854775807)
    (hX : IntKind.i64.wrap (F + first) = X) (hR : IntKind.i64.wrap (oI bs X - oI bs F) = R) :
    Calls Tryz.prog 198 #[.agg #[.int .i64 F, .int .i64 T], .agg #[.int .i64 bs.length, .slice A1 m c1, .slice A2 m c2], .bool true, .int .i64 first] w fun e w' => e = .returned (.int .i64 R) ∧ Below w.heap.size w w' := by
  have J0 : HB w F T bs A1 A2 c1 c2 m _ := HB.start hI hm hs 210 100
  have HO := Lib.hid (fun W i (h : HB w F T bs A1 A2 c1 c2 m W) => h.ones i)
  clear hI hm hs
  go_enter Tryz.func198, Tryz.ntmps198
  go_wp2_with fail
  generalize hW : ((w.alloc _).alloc _) = W1 at J0 ⊢
  clear hW
  obtain ⟨j0, j1, j2, j3, j4⟩ : _ ∧ _ ∧ _ ∧ _ ∧ _ := ⟨J0.g0, J0.g1, J0.b0, J0.b1, J0.b2⟩
  have J1 := J0.drew
  go_region_held3 (fun w' => w'.cell? ⟨w.heap.size, 0, none⟩ = some (.int .i64 F) ∧ w'.cell? ⟨w.heap.size + 1, 0, none⟩ = some (.int .i64 bs.length) ∧ w'.cell? ⟨w.heap.size + 1, 1, none⟩ = some (.slice A1 m c1) ∧ w'.cell? ⟨w.heap.size + 1, 2, none⟩ = some (.slice A2 m c2)) (first | exact ⟨j0, j2, j3, j4⟩ | go_keep)
    (first
      | (go_at_call 213; refine (HO.out _ _ ?_).mono ?_; (first | assumption | exact J1); rintro e w3 ⟨rfl, J3⟩; have k0 := J3.g0; have k2 := J3.b0; have k3 := J3.b1; have k4 := J3.b2))
  have hold := J3.old
  go_wp2
  go_ret
  exact ⟨rfl, hold⟩

set_option maxHeartbeats 1000000 in
theorem having_nought (F T first X R : Int) (bs : List Bool) (A1 A2 : Option Addr) (c1 c2 m : Nat) (w : World) (hI : IsBits w w.heap.size A1 A2 bs) (hm : m = bs.length / 64 + 1) (hs : bs.length ≤ 9223372036854775807)
    (hX : IntKind.i64.wrap (F + first) = X) (hR : IntKind.i64.wrap (nI bs X - nI bs F) = R) :
    Calls Tryz.prog 198 #[.agg #[.int .i64 F, .int .i64 T], .agg #[.int .i64 bs.length, .slice A1 m c1, .slice A2 m c2], .bool false, .int .i64 first] w fun e w' => e = .returned (.int .i64 R) ∧ Below w.heap.size w w' := by
  have J0 : HB w F T bs A1 A2 c1 c2 m _ := HB.start hI hm hs 210 100
  have HO := Lib.hid (fun W i (h : HB w F T bs A1 A2 c1 c2 m W) => h.noughts i)
  clear hI hm hs
  go_enter Tryz.func198, Tryz.ntmps198
  go_wp2_with fail
  generalize hW : ((w.alloc _).alloc _) = W1 at J0 ⊢
  clear hW
  obtain ⟨j0, j1, j2, j3, j4⟩ : _ ∧ _ ∧ _ ∧ _ ∧ _ := ⟨J0.g0, J0.g1, J0.b0, J0.b1, J0.b2⟩
  have J1 := J0.drew
  go_region_held3 (fun w' => w'.cell? ⟨w.heap.size, 0, none⟩ = some (.int .i64 F) ∧ w'.cell? ⟨w.heap.size + 1, 0, none⟩ = some (.int .i64 bs.length) ∧ w'.cell? ⟨w.heap.size + 1, 1, none⟩ = some (.slice A1 m c1) ∧ w'.cell? ⟨w.heap.size + 1, 2, none⟩ = some (.slice A2 m c2)) (first | exact ⟨j0, j2, j3, j4⟩ | go_keep)
    (first
      | (go_at_call 214; refine (HO.out _ _ ?_).mono ?_; (first | assumption | exact J1); rintro e w3 ⟨rfl, J3⟩; have k0 := J3.g0; have k2 := J3.b0; have k3 := J3.b1; have k4 := J3.b2))
  have hold := J3.old
  go_wp2
  go_ret
  exact ⟨rfl, hold⟩

/-- the same three blocks: a group, bits, a group that is to be handed back -/
structure HD (w : World) (F T : Int) (bs : List Bool) (A1 A2 : Option Addr) (c1 c2 m : Nat) (W : World) : Prop where
  hb : HB w F T bs A1 A2 c1 c2 m W
  res : W.rowIs (w.heap.size + 2) 210 2 (fun _ => .int .i64 0)
theorem HD.on {w : World} {F T : Int} {bs : List Bool} {A1 A2 : Option Addr} {c1 c2 m : Nat} {W W' : World} (h : HD w F T bs A1 A2 c1 c2 m W) (hb : Below W.heap.size W W') : HD w F T bs A1 A2 c1 c2 m W' :=
  ⟨h.hb.on hb, h.res.of_block (hb.block _ h.res.lt)⟩
theorem HD.drew {w : World} {F T : Int} {bs : List Bool} {A1 A2 : Option Addr} {c1 c2 m : Nat} {W : World} (h : HD w F T bs A1 A2 c1 c2 m W) : HD w F T bs A1 A2 c1 c2 m W.drew := h.on (Below.refl _ _).drew

set_option maxHeartbeats 1000000 in
theorem half_any (F T X R M : Int) (one : Bool) (bs : List Bool) (A1 A2 : Option Addr) (c1 c2 m : Nat) (w : World) (hI : IsBits w w.heap.size A1 A2 bs) (hm : m = bs.length / 64 + 1) (hs : bs.length ≤ 9223372036854775807)
    (hX : IntKind.i64.wrap (F + IntKind.i64.wrap (T - F)) = X) (hR : IntKind.i64.wrap (nI bs X - nI bs F) = R) (hM : IntKind.i64.wrap (F + R) = M) :
    Calls Tryz.prog 197 #[.agg #[.int .i64 F, .int .i64 T], .agg #[.int .i64 bs.length, .slice A1 m c1, .slice A2 m c2], .bool one] w fun e w' => e = .returned (.agg #[.int .i64 (if one = true then M else F), .int .i64 (if one = true then T else M)]) ∧ Below w.heap.size w w' := by
  have JB : HB w F T bs A1 A2 c1 c2 m _ := HB.start hI hm hs 210 100
  have J0 : HD w F T bs A1 A2 c1 c2 m _ := ⟨JB.on ((Below.refl _ _).alloc (Nat.le_refl _) (.cells #[.int .i64 0, .int .i64 0] 210)), by
    have h := World.rowIs_alloc ((w.alloc (.cells #[.int .i64 F, .int .i64 T] 210)).alloc (.cells #[.int .i64 bs.length, .slice A1 m c1, .slice A2 m c2] 100)) #[.int .i64 0, .int .i64 0] 210 (fun _ => .int .i64 0) (fun i hi => by
      match i, hi with
      | 0, _ => rfl
      | 1, _ => rfl)
    rw [World.size_alloc, World.size_alloc] at h
    exact h⟩
  clear JB
  have HO := Lib.hid (fun W (h : HD w F T bs A1 A2 c1 c2 m W) => (having_nought F T (IntKind.i64.wrap (T - F)) X R bs A1 A2 c1 c2 m W h.hb.made hm hs hX hR).mono (fun e w' (hh : e = .returned (.int .i64 R) ∧ Below W.heap.size W w') => (⟨hh.1, h.on hh.2⟩ : e = .returned (.int .i64 R) ∧ HD w F T bs A1 A2 c1 c2 m w')))
  have HM := Lib.hid hM
  clear hI hm hs hX hR hM
  go_enter Tryz.func197, Tryz.ntmps197
  go_wp2_with fail
  generalize hW : (((w.alloc _).alloc _).alloc _) = W1 at J0 ⊢
  clear hW
  obtain ⟨j0, j1, j2, j3, j4⟩ : _ ∧ _ ∧ _ ∧ _ ∧ _ := ⟨J0.hb.g0, J0.hb.g1, J0.hb.b0, J0.hb.b1, J0.hb.b2⟩
  have J1 := J0.drew
  go_region_held3 (fun w' => w'.cell? ⟨w.heap.size, 0, none⟩ = some (.int .i64 F) ∧ w'.cell? ⟨w.heap.size, 1, none⟩ = some (.int .i64 T) ∧ w'.cell? ⟨w.heap.size + 1, 0, none⟩ = some (.int .i64 bs.length) ∧ w'.cell? ⟨w.heap.size + 1, 1, none⟩ = some (.slice A1 m c1) ∧ w'.cell? ⟨w.heap.size + 1, 2, none⟩ = some (.slice A2 m c2)) (first | exact ⟨j0, j1, j2, j3, j4⟩ | go_keep)
    (first
      | (go_at_call 198; refine (HO.out _ ?_).mono ?_; (first | assumption | exact J1); rintro e w3 ⟨rfl, J3⟩; have k0 := J3.hb.g0; have k1 := J3.hb.g1; have k2 := J3.hb.b0; have k3 := J3.hb.b1; have k4 := J3.hb.b2))
  rw [HM.out]
  have hold := J3.hb.old
  have r0 : w3.cell? ⟨w.heap.size + 2, 0, none⟩ = some (.int .i64 0) := J3.res.cell (by omega)
  have r1 : w3.cell? ⟨w.heap.size + 2, 1, none⟩ = some (.int .i64 0) := J3.res.cell (by omega)
  have f0 := J3.res.frozen 0
  have f1 := J3.res.frozen 1
  have HS := Lib.hid (fun v0 v1 => set2 J3.res v0 v1)
  have HQ : Hid (∀ v0 v1, Below w.heap.size w ((w3.setCell ⟨w.heap.size + 2, 0, none⟩ v0).setCell ⟨w.heap.size + 2, 1, none⟩ v1)) := Lib.hid fun v0 v1 => (hold.setCell (by show w.heap.size ≤ w.heap.size + 2; omega) _).setCell (by show w.heap.size ≤ w.heap.size + 2; omega) _
  cases one
  · go_wp2
    obtain ⟨s0, s1⟩ := HS.out (.int .i64 F) (.int .i64 M)
    refine bodyPost_ret (v := .agg #[.int .i64 F, .int .i64 M]) (by simp [results, Tryz.results197, go_sem, s0, s1]) rfl ⟨rfl, HQ.out _ _⟩
  · go_wp2
    obtain ⟨s0, s1⟩ := HS.out (.int .i64 M) (.int .i64 T)
    refine bodyPost_ret (v := .agg #[.int .i64 M, .int .i64 T]) (by simp [results, Tryz.results197, go_sem, s0, s1]) rfl ⟨rfl, HQ.out _ _⟩

end Go.Proofs.YtoejenejleocdabGreatDoor

/- Where a group's halves stand, told by the list of numbers. -/
namespace Go.Proofs.YtoejenejleocdabGreatDoor
open Go.RowKit
attribute [local irreducible] Bt.pop Bt.popF

theorem near_of (N : Nat) (i : Nat) (h : i ≤ N) : near N i = i := by unfold near; omega
theorem oI_near (bs : List Bool) (X : Int) : oI bs X = (Bt.ones (bs.take (near bs.length X)) : Nat) := by
  unfold oI
  congr 2
  rw [List.take_eq_take_iff]
  unfold near; omega
theorem nI_near (bs : List Bool) (X : Int) : nI bs X = (near bs.length X : Int) - (Bt.ones (bs.take (near bs.length X)) : Nat) := by
  have := oI_near bs X
  unfold oI at this
  unfold nI
  rw [this]
theorem ones_take_le (bs : List Bool) (k : Nat) : Bt.ones (bs.take k) ≤ bs.length := by
  have := Bt.ones_le (bs.take k); rw [List.length_take] at this; omega
theorem w64 (x : Int) (h1 : -9223372036854775808 ≤ x) (h2 : x ≤ 9223372036854775807) : IntKind.i64.wrap x = x := by rw [IntKind.wrap_i64]; omega

theorem st_le (s p m : Nat) (l : List Nat) (h : p < m) (hl : (Wv.lbits s m l).length = l.length) : Wv.st (s + 1) p l + Wv.cnt (s + 1) p l ≤ l.length := by
  have h1 := Wv.st_mono (s + 1) p m l h
  have h2 : Wv.st (s + 1) m l = l.length := by rw [← hl]; unfold Wv.lbits Wv.st; rw [List.length_map]
  omega

section
variable (s p m i : Nat) (l : List Nat) (A1 A2 : Option Addr) (c1 c2 mp : Nat) (w : World)

theorem having_lev (one : Bool) (T first : Int) (N : Nat) (hI : IsBits w w.heap.size A1 A2 (Wv.lbits s m l)) (hN : N = l.length) (hl : (Wv.lbits s m l).length = l.length) (hm : mp = l.length / 64 + 1) (hs : l.length ≤ 17592186044416) (hp : p < m)
    (hX : near l.length (IntKind.i64.wrap ((Wv.st (s + 1) p l : Nat) + first)) = Wv.st (s + 1) p l + Wv.cnt (s + 1) p (l.take i)) :
    Calls Tryz.prog 198 #[.agg #[.int .i64 (Wv.st (s + 1) p l : Nat), .int .i64 T], .agg #[.int .i64 N, .slice A1 mp c1, .slice A2 mp c2], .bool one, .int .i64 first] w fun e w' =>
      e = .returned (.int .i64 (Wv.cnt s (Wv.kid p one) (l.take i) : Nat)) ∧ Below w.heap.size w w' := by
  have hle := st_le s p m l hp hl
  have hct := Wv.cnt_take_le (s + 1) p i l
  have h2 := Wv.cnt_two s p (l.take i)
  have hon := Wv.ones_lev s p m i l hp
  have hnF : near l.length (Wv.st (s + 1) p l : Nat) = Wv.st (s + 1) p l := near_of _ _ (by omega)
  have e1 := oI_near (Wv.lbits s m l) (IntKind.i64.wrap ((Wv.st (s + 1) p l : Nat) + first))
  have e2 := oI_near (Wv.lbits s m l) (Wv.st (s + 1) p l : Nat)
  have e3 := nI_near (Wv.lbits s m l) (IntKind.i64.wrap ((Wv.st (s + 1) p l : Nat) + first))
  have e4 := nI_near (Wv.lbits s m l) (Wv.st (s + 1) p l : Nat)
  rw [hl, hX, hon] at e1 e3
  rw [hl, hnF] at e2 e4
  subst hN
  have q1 := ones_take_le (Wv.lbits s m l) (Wv.st (s + 1) p l)
  rw [hl] at q1
  rw [← hl]
  rw [← hl] at hm
  cases one
  · refine having_nought _ T first _ _ (Wv.lbits s m l) A1 A2 c1 c2 mp w hI hm (by omega) rfl ?_
    rw [e3, e4, w64 _ (by omega) (by omega)]
    omega
  · refine having_one _ T first _ _ (Wv.lbits s m l) A1 A2 c1 c2 mp w hI hm (by omega) rfl ?_
    rw [e1, e2, w64 _ (by omega) (by omega)]
    omega

theorem half_lev (one : Bool) (N : Nat) (hI : IsBits w w.heap.size A1 A2 (Wv.lbits s m l)) (hN : N = l.length) (hl : (Wv.lbits s m l).length = l.length) (hm : mp = l.length / 64 + 1) (hs : l.length ≤ 17592186044416) (hp : p < m) :
    Calls Tryz.prog 197 #[.agg #[.int .i64 (Wv.st (s + 1) p l : Nat), .int .i64 (Wv.st (s + 1) (p + 1) l : Nat)], .agg #[.int .i64 N, .slice A1 mp c1, .slice A2 mp c2], .bool one] w fun e w' =>
      e = .returned (.agg #[.int .i64 (Wv.st s (Wv.kid p one) l : Nat), .int .i64 (Wv.st s (Wv.kid p one + 1) l : Nat)]) ∧ Below w.heap.size w w' := by
  have hle := st_le s p m l hp hl
  have hsu := Wv.st_succ (s + 1) p l
  have h2 := Wv.cnt_two s p l
  have hon := Wv.ones_lev s p m l.length l hp
  rw [List.take_length] at hon
  have hnF : near l.length (Wv.st (s + 1) p l : Nat) = Wv.st (s + 1) p l := near_of _ _ (by omega)
  have hnT : near l.length ((Wv.st (s + 1) p l + Wv.cnt (s + 1) p l : Nat) : Int) = Wv.st (s + 1) p l + Wv.cnt (s + 1) p l := near_of _ _ (by omega)
  have e3 := nI_near (Wv.lbits s m l) ((Wv.st (s + 1) p l + Wv.cnt (s + 1) p l : Nat) : Int)
  have e4 := nI_near (Wv.lbits s m l) (Wv.st (s + 1) p l : Nat)
  rw [hl, hnT, hon] at e3
  rw [hl, hnF] at e4
  have q1 := ones_take_le (Wv.lbits s m l) (Wv.st (s + 1) p l)
  have k0 := Wv.st_kid0 s p l
  have k1 := Wv.st_kid1 s p l
  have k2 := Wv.st_kid2 s p l
  have k3 := Wv.st_kid01 s p l
  rw [hl] at q1
  subst hN
  rw [← hl]
  rw [← hl] at hm
  refine (half_any (Wv.st (s + 1) p l : Nat) (Wv.st (s + 1) (p + 1) l : Nat) ((Wv.st (s + 1) p l + Wv.cnt (s + 1) p l : Nat) : Int) (Wv.cnt s (Wv.kid p false) l : Nat) (Wv.st (s + 1) p l + Wv.cnt s (Wv.kid p false) l : Nat) one (Wv.lbits s m l) A1 A2 c1 c2 mp w hI hm (by omega) ?_ ?_ ?_).mono ?_
  · rw [w64 ((Wv.st (s + 1) (p + 1) l : Nat) - _) (by omega) (by omega), w64 _ (by omega) (by omega)]
    omega
  · rw [e3, e4, w64 _ (by omega) (by omega)]
    omega
  · rw [w64 _ (by omega) (by omega)]
    omega
  · rintro e w' ⟨rfl, hb⟩
    refine ⟨?_, hb⟩
    cases one
    · rw [k0, k3]; rfl
    · rw [k1, k2]; rfl
end

end Go.Proofs.YtoejenejleocdabGreatDoor

/- slices.IndexFunc and ContainsFunc at bits; isShaped, isNotGood, Good. -/
namespace Go.Proofs.YtoejenejleocdabGreatDoor
open Go.RowKit
attribute [local irreducible] Bt.pop Bt.popF

/-- structs of three cells in a row -/
def Row3 (w : World) (B : Nat) (A : Option Addr) (n : Nat) (x y z : Nat → Value) : Prop :=
  0 < n → ∃ b o, A = some ⟨b, o, none⟩ ∧ b < B ∧ ∀ k, k < n → w.cell? ⟨b, o + k * 3, none⟩ = some (x k) ∧ w.cell? ⟨b, o + k * 3 + 1, none⟩ = some (y k) ∧ w.cell? ⟨b, o + k * 3 + 2, none⟩ = some (z k)
theorem Row3.on {w w' : World} {A : Option Addr} {n : Nat} {x y z : Nat → Value} (h : Row3 w w.heap.size A n x y z) (hb : Below w.heap.size w w') : Row3 w' w'.heap.size A n x y z := by
  intro hn
  obtain ⟨b, o, e, hlt, hc⟩ := h hn
  have := hb.size
  exact ⟨b, o, e, by omega, fun k hk => ⟨(hb.cell (p := ⟨b, o + k * 3, none⟩) hlt).trans (hc k hk).1, (hb.cell (p := ⟨b, o + k * 3 + 1, none⟩) hlt).trans (hc k hk).2.1, (hb.cell (p := ⟨b, o + k * 3 + 2, none⟩) hlt).trans (hc k hk).2.2⟩⟩

/-- does one of the first n answer yes -/
def anyQ (q : Nat → Bool) (n : Nat) : Bool := (List.range n).any q
theorem anyQ_succ (q : Nat → Bool) (n : Nat) : anyQ q (n + 1) = (anyQ q n || q n) := by unfold anyQ; rw [List.range_succ, List.any_append]; simp
theorem anyQ_true (q : Nat → Bool) (n k : Nat) (h : k < n) (hq : q k = true) : anyQ q n = true := by unfold anyQ; rw [List.any_eq_true]; exact ⟨k, by simpa using h, hq⟩
theorem anyQ_false (q : Nat → Bool) (n : Nat) (h : ∀ k, k < n → q k = false) : anyQ q n = false := by
  induction n with
  | zero => rfl
  | succ n ih => rw [anyQ_succ, ih (fun k hk => h k (by omega)), h n (by omega)]; rfl

/-- a function value that answers q of each -/
def Asks (G : Nat) (cb : Array Value) (n : Nat) (x y z : Nat → Value) (q : Nat → Bool) (w : World) : Prop :=
  ∀ W, Below w.heap.size w W → ∀ k, k < n → Calls Tryz.prog G (#[.agg #[x k, y k, z k]] ++ cb) W fun e w' => e = .returned (.bool (q k)) ∧ Below W.heap.size W w'

set_option maxHeartbeats 1000000 in
theorem indexBits_any (G : Nat) (cb : Array Value) (A : Option Addr) (n c : Nat) (x y z : Nat → Value) (q : Nat → Bool) (w : World) (eg : ∀ args w, (callFunc G args).run Tryz.prog w = .ok (.enter G args) w)
    (hr : Row3 w w.heap.size A n x y z) (hx : ∀ k, (x k).oneCell' = true) (hy : ∀ k, (y k).oneCell' = true) (hz : ∀ k, (z k).oneCell' = true) (hC : Asks G cb n x y z q w) (hn : n < 4611686018427387904) :
    Calls Tryz.prog 221 #[.slice A n c, .func (.func G) #[] cb] w fun e w' =>
      ∃ v : Int, e = .returned (.int .i64 v) ∧ decide (0 ≤ v) = anyQ q n ∧ Below w.heap.size w w' := by
  have HR : Hid (∀ W, Below w.heap.size w W → ∀ k, k < n → ∃ b o, A = some ⟨b, o, none⟩ ∧ W.cell? ⟨b, o + k * 3, none⟩ = some (x k) ∧ W.cell? ⟨b, o + k * 3 + 1, none⟩ = some (y k) ∧ W.cell? ⟨b, o + k * 3 + 2, none⟩ = some (z k)) := Lib.hid fun W h k hk => by
    obtain ⟨b, o, e, hb, hc⟩ := hr (by omega)
    obtain ⟨h1, h2, h3⟩ := hc k hk
    exact ⟨b, o, e, (h.cell (p := ⟨b, o + k * 3, none⟩) hb).trans h1, (h.cell (p := ⟨b, o + k * 3 + 1, none⟩) hb).trans h2, (h.cell (p := ⟨b, o + k * 3 + 2, none⟩) hb).trans h3⟩
  have HC := Lib.hid hC
  clear hr hC
  go_enter Tryz.func221, Tryz.ntmps221
  go_wp2
  go_loopw [8] (fun s wr => ∃ k : Nat, k ≤ n ∧ s = .int .i64 k ∧ Below w.heap.size w wr ∧ Hid (∀ i, i < k → q i = false)) (fun s _ => n - (intOf s).toNat)
  case atStart => exact ⟨0, Nat.zero_le _, rfl, Below.refl _ _, (fun i hi => absurd hi (by omega) : ∀ i, i < 0 → q i = false)⟩
  case round =>
    obtain ⟨k, hk, rfl, hb, I⟩ := hrel
    by_cases hlt : k < n
    · obtain ⟨b, o, rfl, hc1, hc2, hc3⟩ := HR.out wr hb k hlt
      have hlz : (k : Int) < (n : Int) := by omega
      have HCx := Lib.hid (HC.out wr hb k hlt)
      have HE : Hid (q k = true → anyQ q n = true) := Lib.hid (anyQ_true q n k hlt)
      have I2 : Hid (q k = false → ∀ i, i < k + 1 → q i = false) := Lib.hid fun h i hi => by
        rcases Nat.lt_succ_iff_lt_or_eq.1 hi with h' | h'
        · exact I.out i h'
        · rw [h']; exact h
      have x1 := hx k
      have y1 := hy k
      have z1 := hz k
      generalize x k = xk at *
      generalize y k = yk at *
      generalize z k = zk at *
      clear I HR HC hx hy hz
      cases hq : q k
      · have I3 := Lib.hid (I2.out hq)
        rw [hq] at HCx
        clear hq HE I2
        go_wp2_with fail
        with_reducible refine HCx.out.mono ?_
        rintro e w' ⟨rfl, hb'⟩
        have hb2 := hb.trans (hb'.mono hb.size)
        go_wp2
        go_roundw
        case rel => exact ⟨k + 1, by omega, by go_num, hb2, I3⟩
        case measure => simp [intOf]; omega
      · have I3 := Lib.hid (HE.out hq)
        rw [hq] at HCx
        clear hq HE I2
        go_wp2_with fail
        with_reducible refine HCx.out.mono ?_
        rintro e w' ⟨rfl, hb'⟩
        have hb2 := hb.trans (hb'.mono hb.size)
        go_wp2
        go_ret
        exact ⟨k, rfl, by rw [I3.out]; simp, hb2⟩
    · have hkn : k = n := by omega
      subst hkn
      have HA := Lib.hid (anyQ_false q k I.out)
      clear I
      go_wp2
      go_ret
      exact ⟨-1, rfl, by rw [HA.out]; rfl, hb⟩

theorem containsBits_any (G : Nat) (cb : Array Value) (A : Option Addr) (n c : Nat) (x y z : Nat → Value) (q : Nat → Bool) (w : World) (eg : ∀ args w, (callFunc G args).run Tryz.prog w = .ok (.enter G args) w)
    (hr : Row3 w w.heap.size A n x y z) (hx : ∀ k, (x k).oneCell' = true) (hy : ∀ k, (y k).oneCell' = true) (hz : ∀ k, (z k).oneCell' = true) (hC : Asks G cb n x y z q w) (hn : n < 4611686018427387904) :
    Calls Tryz.prog 212 #[.slice A n c, .func (.func G) #[] cb] w fun e w' =>
      e = .returned (.bool (anyQ q n)) ∧ Below w.heap.size w w' := by
  have HI := Lib.hid (indexBits_any G cb A n c x y z q w eg hr hx hy hz hC hn)
  clear hr hx hy hz hC eg
  go_enter Tryz.func212, Tryz.ntmps212
  go_wp2_with fail
  refine HI.out.mono ?_
  rintro e w' ⟨v, rfl, hv, hb⟩
  have HV := Lib.hid hv
  clear hv
  go_wp2
  go_ret
  exact ⟨by rw [← HV.out]; rfl, hb⟩

end Go.Proofs.YtoejenejleocdabGreatDoor

/- slices.IndexFunc and ContainsFunc at numbers, whatever function is asked; allBelow. -/
namespace Go.Proofs.YtoejenejleocdabGreatDoor
open Go.RowKit

/-- a function value that answers q of each, and leaves all as it was -/
def AsksI (G : Nat) (cb : Array Value) (f : Nat → Int) (n : Nat) (q : Nat → Bool) (w : World) : Prop :=
  ∀ k, k < n → Calls Tryz.prog G (#[.int .i64 (f k)] ++ cb) w fun e w' => e = .returned (.bool (q k)) ∧ w = w'

set_option maxHeartbeats 1000000 in
theorem indexInts_any (G : Nat) (cb : Array Value) (A : Option Addr) (n c : Nat) (f : Nat → Int) (q : Nat → Bool) (w : World) (eg : ∀ args w, (callFunc G args).run Tryz.prog w = .ok (.enter G args) w)
    (hr : Row w w.heap.size A n (fun k => .int .i64 (f k))) (hC : AsksI G cb f n q w) (hn : n < 4611686018427387904) :
    Calls Tryz.prog 105 #[.slice A n c, .func (.func G) #[] cb] w fun e w' =>
      ∃ v : Int, e = .returned (.int .i64 v) ∧ decide (0 ≤ v) = anyQ q n ∧ w = w' := by
  have HC := Lib.hid hC
  clear hC
  go_enter Tryz.func105, Tryz.ntmps105
  go_wp2
  go_loopw [8] (fun s wr => ∃ k : Nat, k ≤ n ∧ s = .int .i64 k ∧ wr = w ∧ Hid (∀ i, i < k → q i = false)) (fun s _ => n - (intOf s).toNat)
  case atStart => exact ⟨0, Nat.zero_le _, rfl, rfl, (fun i hi => absurd hi (by omega) : ∀ i, i < 0 → q i = false)⟩
  case round =>
    obtain ⟨k, hk, rfl, rfl, I⟩ := hrel
    by_cases hlt : k < n
    · obtain ⟨x, o, rfl, hx, hc⟩ := hr (by omega)
      have hc1 : wr.cell? ⟨x, o + k, none⟩ = some (.int .i64 (f k)) := hc k hlt
      have hlz : (k : Int) < (n : Int) := by omega
      have HCx := Lib.hid (HC.out k hlt)
      have HE : Hid (q k = true → anyQ q n = true) := Lib.hid (anyQ_true q n k hlt)
      have I2 : Hid (q k = false → ∀ i, i < k + 1 → q i = false) := Lib.hid fun h i hi => by
        rcases Nat.lt_succ_iff_lt_or_eq.1 hi with h' | h'
        · exact I.out i h'
        · rw [h']; exact h
      clear hc hr I HC
      generalize f k = y at *
      cases hq : q k
      · have I3 := Lib.hid (I2.out hq)
        rw [hq] at HCx
        clear hq HE I2
        go_wp2_with fail
        with_reducible refine HCx.out.mono ?_
        rintro e w' ⟨rfl, rfl⟩
        go_wp2
        go_roundw
        case rel => exact ⟨k + 1, by omega, by go_num, by first | rfl | trivial, I3⟩
        case measure => simp [intOf]; omega
      · have I3 := Lib.hid (HE.out hq)
        rw [hq] at HCx
        clear hq HE I2
        go_wp2_with fail
        with_reducible refine HCx.out.mono ?_
        rintro e w' ⟨rfl, rfl⟩
        go_wp2
        go_ret
        exact ⟨k, rfl, by rw [I3.out]; simp, rfl⟩
    · have hkn : k = n := by omega
      subst hkn
      have HA := Lib.hid (anyQ_false q k I.out)
      clear I
      go_wp2
      go_ret
      exact ⟨-1, rfl, by rw [HA.out]; rfl, rfl⟩

theorem containsInts_any (G : Nat) (cb : Array Value) (A : Option Addr) (n c : Nat) (f : Nat → Int) (q : Nat → Bool) (w : World) (eg : ∀ args w, (callFunc G args).run Tryz.prog w = .ok (.enter G args) w)
    (hr : Row w w.heap.size A n (fun k => .int .i64 (f k))) (hC : AsksI G cb f n q w) (hn : n < 4611686018427387904) :
    Calls Tryz.prog 66 #[.slice A n c, .func (.func G) #[] cb] w fun e w' => e = .returned (.bool (anyQ q n)) ∧ w = w' := by
  have HI := Lib.hid (indexInts_any G cb A n c f q w eg hr hC hn)
  clear hr hC eg
  go_enter Tryz.func66, Tryz.ntmps66
  go_wp2_with fail
  refine HI.out.mono ?_
  rintro e w' ⟨v, rfl, hv, rfl⟩
  have HV := Lib.hid hv
  clear hv
  go_wp2
  go_ret
  exact ⟨by rw [← HV.out]; rfl, rfl⟩

/-- is a number outside -/
def outQ (b x : Int) : Bool := decide (x < 0) || decide (b ≤ x)
theorem allBelow1_any (B : Nat) (b x : Int) (w : World) (hB : w.cell? ⟨B, 0, none⟩ = some (.int .i64 b)) :
    Calls Tryz.prog 108 #[.int .i64 x, .pointer (some ⟨B, 0, none⟩)] w fun e w' => e = .returned (.bool (outQ b x)) ∧ w = w' := by
  unfold outQ
  by_cases h : x < 0
  · have HH := Lib.hid (show decide (x < 0) = true by simp [h])
    go_enter Tryz.func108, Tryz.ntmps108
    go_wp2
    go_ret
    exact ⟨by first | rfl | (rw [HH.out]; rfl), rfl⟩
  · have HH := Lib.hid (show decide (x < 0) = false by simp [h])
    go_enter Tryz.func108, Tryz.ntmps108
    go_wp2
    go_ret
    exact ⟨by first | rfl | (rw [HH.out]; rfl), rfl⟩

/-- are all numbers inside -/
def insB (b : Int) (l : List Int) : Bool := !anyQ (fun k => outQ b (l.getD k 0)) l.length

theorem allBelow_any (A : Option Addr) (c : Nat) (l : List Int) (b : Int) (w : World) (hr : IRow w w.heap.size A l) (hn : l.length < 4611686018427387904) :
    Calls Tryz.prog 75 #[.slice A l.length c, .int .i64 b] w fun e w' => e = .returned (.bool (insB b l)) ∧ Below w.heap.size w w' := by
  have hb0 : Below w.heap.size w (w.alloc (.cells #[.int .i64 b] 3)) := (Below.refl _ _).alloc (Nat.le_refl _) _
  have HC := Lib.hid (containsInts_any 108 #[.pointer (some ⟨w.heap.size, 0, none⟩)] A l.length c (fun k => l.getD k 0) (fun k => outQ b (l.getD k 0)) (w.alloc (.cells #[.int .i64 b] 3)) (enters_of Tryz.func108 (by kernel_rfl) rfl) (hr.on hb0)
    (fun k _ => allBelow1_any w.heap.size b (l.getD k 0) _ (by simp)) hn)
  unfold insB
  clear hr
  generalize anyQ (fun k => outQ b (l.getD k 0)) l.length = r at *
  generalize l.length = n at *
  go_enter Tryz.func75, Tryz.ntmps75
  go_wp2_with fail
  with_reducible refine HC.out.mono ?_
  rintro e w' ⟨rfl, rfl⟩
  go_wp2
  go_ret
  exact ⟨rfl, hb0⟩

theorem insB_of (b : Nat) (m : List Nat) (h : ∀ n ∈ m, n < b) : insB b (m.map (fun (n : Nat) => (n : Int))) = true := by
  unfold insB
  rw [anyQ_false]
  · rfl
  · intro k hk
    rw [List.length_map] at hk
    have h1 : (m.map (fun (n : Nat) => (n : Int))).getD k 0 = (m[k] : Int) := by simp [hk]
    have h2 := h m[k] (List.getElem_mem hk)
    rw [h1]; unfold outQ; simp; omega

end Go.Proofs.YtoejenejleocdabGreatDoor

/- bitsOf: the bits of all numbers of lists. -/
namespace Go.Proofs.YtoejenejleocdabGreatDoor
open Go.RowKit

/-- a list of bools in the making -/
structure OB (w : World) (L : List Bool) (v : Value) (W : World) : Prop where
  own : W.ownsRow w.heap.size 4 1 v L.length (L.map Value.bool)
  old : Below w.heap.size w W
theorem OB.nil (w W : World) (h : Below w.heap.size w W) : OB w [] (.slice none 0 0) W := ⟨World.ownsRow_nil _ _ _ _, h⟩
theorem OB.on {w : World} {L : List Bool} {v : Value} {W W' : World} (h : OB w L v W) (hb : Below W.heap.size W W') : OB w L v W' := ⟨own_below h.own hb, h.old.trans (hb.mono h.old.size)⟩
theorem OB.app {w : World} {L : List Bool} {v v' : Value} {W W' : World} (h : OB w L v W) (x : Bool) (h2 : W'.ownsRow w.heap.size 4 1 v' (L.length + 1) (L.map Value.bool ++ [.bool x])) (hg : W.grownBy W' v.ownBlock) : OB w (L ++ [x]) v' W' :=
  ⟨by simpa using h2, h.old.grown hg h.old.size (fun g hg => (h.own.lt g hg).1)⟩

/-- a function value that tells bit s of a number -/
def IsOne (G : Nat) (cb : Array Value) (s : Nat) (w : World) : Prop := ∀ W, Below w.heap.size w W → ∀ n : Nat, n < 9223372036854775808 → Calls Tryz.prog G (#[.int .i64 n] ++ cb) W fun e w' => e = .returned (.bool (Wv.bit s n)) ∧ W = w'

/-- what has been read: k lists, and m of the next one -/
def pre (gs : List (List Nat)) (k m : Nat) : List Nat := (gs.take k).flatten ++ (gs.getD k []).take m
theorem pre_zero (gs : List (List Nat)) : pre gs 0 0 = [] := by simp [pre]
theorem pre_in (gs : List (List Nat)) (k m : Nat) (hm : m < (gs.getD k []).length) : pre gs k (m + 1) = pre gs k m ++ [(gs.getD k []).getD m 0] := by
  unfold pre
  rw [List.take_succ_eq_append_getElem hm, List.append_assoc]
  congr 3
  rw [List.getD_eq_getElem?_getD (l := gs.getD k []), List.getElem?_eq_getElem hm, Option.getD_some]
theorem pre_next (gs : List (List Nat)) (k : Nat) (hk : k < gs.length) : pre gs k (gs.getD k []).length = pre gs (k + 1) 0 := by
  unfold pre
  rw [List.take_length, List.take_zero, List.append_nil, List.take_succ_eq_append_getElem hk, List.flatten_append]
  simp [hk]
theorem pre_end (gs : List (List Nat)) : pre gs gs.length 0 = gs.flatten := by simp [pre]
theorem pre_sub (gs : List (List Nat)) (k m : Nat) : (pre gs k m).length ≤ gs.flatten.length := by
  unfold pre
  have e : gs = gs.take k ++ gs.drop k := (List.take_append_drop k gs).symm
  have h : gs.flatten.length = (gs.take k).flatten.length + (gs.drop k).flatten.length := by
    conv => lhs; rw [e]
    rw [List.flatten_append, List.length_append]
  rw [List.length_append, h, List.length_take]
  have h2 : (gs.getD k []).length ≤ (gs.drop k).flatten.length := by
    by_cases hk : k < gs.length
    · rw [List.drop_eq_getElem_cons hk, List.flatten_cons, List.length_append]; simp [hk]
    · simp [hk]
  omega
theorem get_len (gs : List (List Nat)) (k : Nat) : (gs.getD k []).length ≤ gs.flatten.length := by
  have h := pre_sub gs k (gs.getD k []).length
  unfold pre at h
  rw [List.take_length, List.length_append] at h
  omega
theorem mem_getD (gs : List (List Nat)) (k m : Nat) (hk : k < gs.length) (hm : m < (gs.getD k []).length) : (gs.getD k []).getD m 0 ∈ gs.flatten := by
  rw [List.mem_flatten]
  refine ⟨gs.getD k [], ?_, ?_⟩
  · rw [List.getD_eq_getElem?_getD, List.getElem?_eq_getElem hk]; exact List.getElem_mem hk
  · rw [List.getD_eq_getElem?_getD (l := gs.getD k []), List.getElem?_eq_getElem hm, Option.getD_some]; exact List.getElem_mem hm

set_option maxHeartbeats 2000000 in
theorem bitsOf_groups (G : Nat) (cb : Array Value) (s : Nat) (A : Option Addr) (c : Nat) (gs : List (List Nat)) (w : World) (eg : ∀ args w, (callFunc G args).run Tryz.prog w = .ok (.enter G args) w)
    (hr : GRow w w.heap.size A gs) (hC : IsOne G cb s w) (hx : ∀ n ∈ gs.flatten, n < 65536) (hg : gs.length ≤ 17592186044416) (hn : gs.flatten.length ≤ 17592186044416) :
    Calls Tryz.prog 79 #[.slice A gs.length c, .func (.func G) #[] cb] w fun e w' => ∃ v, e = .returned v ∧ OB w (gs.flatten.map (Wv.bit s)) v w' := by
  obtain ⟨a, ca, hrow, hrows⟩ := hr
  have HR : Hid (∀ W, Below w.heap.size w W → ∀ k, k < gs.length → ∃ b o, A = some ⟨b, o, none⟩ ∧ W.cell? ⟨b, o + k, none⟩ = some (.slice (a k) (gs.getD k []).length (ca k))) := Lib.hid fun W h k hk => by
    obtain ⟨b, o, e, hb, hc⟩ := hrow (by omega)
    exact ⟨b, o, e, (h.cell (p := ⟨b, o + k, none⟩) hb).trans (hc k hk)⟩
  have HN : Hid (∀ W, Below w.heap.size w W → ∀ k, k < gs.length → ∀ m, m < (gs.getD k []).length → ∃ b o, a k = some ⟨b, o, none⟩ ∧ W.cell? ⟨b, o + m, none⟩ = some (.int .i64 (((gs.getD k []).getD m 0 : Nat) : Int)) ∧ (gs.getD k []).getD m 0 < 9223372036854775808) := Lib.hid fun W h k hk m hm => by
    obtain ⟨b, o, e, hb, hc⟩ := hrows k hk (by omega)
    refine ⟨b, o, e, (h.cell (p := ⟨b, o + m, none⟩) hb).trans (hc m hm), ?_⟩
    have := hx _ (mem_getD gs k m hk hm); omega
  have HC := Lib.hid hC
  have P0 := Lib.hid (pre_zero gs)
  have P1 := Lib.hid (pre_in gs)
  have P2 := Lib.hid (pre_next gs)
  have P3 := Lib.hid (pre_end gs)
  have P4 := Lib.hid (fun k m => Nat.le_trans (pre_sub gs k m) hn)
  have P5 := Lib.hid (fun k => Nat.le_trans (get_len gs k) hn)
  have HF : Hid (∀ v W, OB w ((pre gs gs.length 0).map (Wv.bit s)) v W → OB w (gs.flatten.map (Wv.bit s)) v W) := Lib.hid fun v W h => by rw [pre_end] at h; exact h
  generalize gs.flatten.map (Wv.bit s) = LF at *
  clear hrow hrows hx hC hn
  generalize gs.length = n at *
  go_enter Tryz.func79, Tryz.ntmps79
  go_wp2
  go_loopw [5, 12] (fun s5 t W => ∃ k : Nat, k ≤ n ∧ t = .int .i64 k ∧ OB w ((pre gs k 0).map (Wv.bit s)) s5 W) (fun _ t _ => n - (intOf t).toNat)
  case atStart => exact ⟨0, Nat.zero_le _, rfl, by rw [P0.out]; exact OB.nil w w (Below.refl _ _)⟩
  case round =>
    obtain ⟨k, hk, rfl, I⟩ := hrel
    by_cases hlt : k < n
    · obtain ⟨b, o, rfl, hc1⟩ := HR.out wr I.old k hlt
      have hlz : (k : Int) < (n : Int) := by omega
      have Q1 := Lib.hid (P1.out k)
      have Q2 := Lib.hid (P2.out k hlt)
      have Q4 := Lib.hid (P4.out k)
      have QN := Lib.hid (fun W hW m => HN.out W hW k hlt m)
      have hgl2 := P5.out k
      generalize a k = ak at *
      generalize ca k = ck at *
      generalize gs.getD k [] = gk at *
      clear HR HN P0 P1 P2 P3 P4 P5
      generalize hV : wr = V at *
      clear hV
      go_wp2
      go_loopw [5, 18] (fun s5 t W => ∃ m : Nat, m ≤ gk.length ∧ t = .int .i64 m ∧ OB w ((pre gs k m).map (Wv.bit s)) s5 W) (fun _ t _ => gk.length - (intOf t).toNat)
      case atStart => exact ⟨0, Nat.zero_le _, rfl, I⟩
      case round =>
        clear hc1 I
        obtain ⟨m, hm, rfl, I⟩ := hrel
        by_cases hlt2 : m < gk.length
        · obtain ⟨b2, o2, rfl, hc2, hx2⟩ := QN.out wr I.old m hlt2
          have hlz2 : (m : Int) < (gk.length : Int) := by omega
          have HCx := Lib.hid (fun W hW => HC.out W hW _ hx2)
          have E1 := Lib.hid (Q1.out m hlt2)
          have n1 := Q4.out m
          generalize gk.getD m 0 = x at *
          have HJ : Hid (∀ v' W', W'.ownsRow w.heap.size 4 1 v' (((pre gs k m).map (Wv.bit s)).length + 1) (((pre gs k m).map (Wv.bit s)).map Value.bool ++ [.bool (Wv.bit s x)]) → (wr.alloc (.cells #[.bool (Wv.bit s x)] 4)).grownBy W' u5.ownBlock → OB w ((pre gs k (m + 1)).map (Wv.bit s)) v' W') := Lib.hid fun v' W' h1 h2 => by
            have := (I.on ((Below.refl _ wr).alloc (Nat.le_refl _) (.cells #[.bool (Wv.bit s x)] 4))).app (Wv.bit s x) h1 h2
            rw [E1.out, List.map_append]; exact this
          have HI := Lib.hid I
          have J1 := I.on ((Below.refl _ wr).alloc (Nat.le_refl _) (.cells #[.bool (Wv.bit s x)] 4))
          have n2 : ((pre gs k m).map (Wv.bit s)).length ≤ 17592186044416 := by rw [List.length_map]; exact n1
          have hsz := I.old.size
          clear E1 n1 Q1 Q4 QN I
          have HC2 := Lib.hid (HCx.out wr HI.out.old)
          clear HCx HC
          generalize (pre gs k m).map (Wv.bit s) = L at *
          generalize Wv.bit s x = y at *
          have hmx : L.length + 1 ≤ maxLen := by unfold maxLen; omega
          go_wp2_with fail
          with_reducible refine HC2.out.mono ?_
          rintro e w' ⟨rfl, rfl⟩
          clear HC2
          go_wp2_with (at_builtin; refine wpList_app1 _ rfl _ _ 102 rfl w.heap.size 4 (.bool false) 1 Tryz.underlying102 infoBool rfl _ L.length (L.map Value.bool) rfl wr.heap.size (.bool y) rfl J1.own (new1 _ _ _) (by simp) rfl hmx (by omega) (by simp; omega) ?_; intro v' w2 h2 h3 h4)
          have J3 := HJ.out v' w2 h2 h3
          go_roundw
          case rel => exact ⟨m + 1, by omega, by go_num, J3⟩
          case measure => simp [intOf]; omega
        · have hmn : m = gk.length := by omega
          subst hmn
          rw [Q2.out] at I
          clear Q1 Q2 Q4 QN HC HF
          go_wp2
          go_roundw
          case rel => exact ⟨k + 1, by omega, by go_num, I⟩
          case measure => simp [intOf]; omega
    · have hkn : k = n := by omega
      subst hkn
      have HO := Lib.hid (HF.out _ _ I)
      clear HF P0 P1 P2 P3 P4 P5 HR HN I
      obtain ⟨A9, c9, rfl, _⟩ := own_slice HO.out.own
      go_wp2
      go_ret
      exact ⟨_, rfl, HO.out⟩

end Go.Proofs.YtoejenejleocdabGreatDoor

/- isShaped, isNotGood and Good of package wave. -/
namespace Go.Proofs.YtoejenejleocdabGreatDoor
open Go.RowKit
attribute [local irreducible] Bt.pop Bt.popF

set_option maxHeartbeats 400000 in
theorem isOther_any (B : Nat) (N x : Int) (A1 A2 : Option Addr) (m1 c1 m2 c2 : Nat) (w : World) (hB : w.cell? ⟨B, 0, none⟩ = some (.int .i64 N)) (hlt : B < w.heap.size) :
    Calls Tryz.prog 211 #[.agg #[.int .i64 x, .slice A1 m1 c1, .slice A2 m2 c2], .pointer (some ⟨B, 0, none⟩)] w fun e w' => e = .returned (.bool (x != N)) ∧ Below w.heap.size w w' := by
  have h2 : (w.alloc (.cells #[.int .i64 x, .slice A1 m1 c1, .slice A2 m2 c2] 100)).cell? ⟨B, 0, none⟩ = some (.int .i64 N) := by rw [World.cell?_alloc_lt _ _ _ hlt]; exact hB
  go_enter Tryz.func211, Tryz.ntmps211
  go_wp2
  go_ret
  exact ⟨rfl, (Below.refl _ _).alloc (Nat.le_refl _) _⟩

/-- is the shape such that it may be a wave? -/
def shapeOk (D : Int) (n : Nat) (N : Int) (f : Nat → Int) : Bool := deepOk D && (decide ((n : Int) = D) && !anyQ (fun k => f k != N) n)

set_option maxHeartbeats 1000000 in
theorem isShaped_any (N D : Int) (A : Option Addr) (n c : Nat) (f : Nat → Int) (a1 a2 : Nat → Option Addr) (m1 k1 m2 k2 : Nat → Nat) (w : World)
    (hr : Row3 w w.heap.size A n (fun k => .int .i64 (f k)) (fun k => .slice (a1 k) (m1 k) (k1 k)) (fun k => .slice (a2 k) (m2 k) (k2 k))) (hn : n < 4611686018427387904) :
    Calls Tryz.prog 195 #[.agg #[.int .i64 N, .int .i64 D, .slice A n c]] w fun e w' => e = .returned (.bool (shapeOk D n N f)) ∧ Below w.heap.size w w' := by
  have hb0 : Below w.heap.size w (w.alloc (.cells #[.int .i64 N, .int .i64 D, .slice A n c] 31)) := (Below.refl _ _).alloc (Nat.le_refl _) _
  have HM := Lib.hid (fun W => mayBeDeep_any D W)
  have HC := Lib.hid (containsBits_any 211 #[.pointer (some ⟨w.heap.size, 0, none⟩)] A n c (fun k => .int .i64 (f k)) (fun k => .slice (a1 k) (m1 k) (k1 k)) (fun k => .slice (a2 k) (m2 k) (k2 k)) (fun k => f k != N)
    (w.alloc (.cells #[.int .i64 N, .int .i64 D, .slice A n c] 31)) (enters_of Tryz.func211 (by kernel_rfl) rfl) (hr.on hb0) (fun _ => rfl) (fun _ => rfl) (fun _ => rfl)
    (fun W hW k _ => isOther_any w.heap.size N (f k) (a1 k) (a2 k) (m1 k) (k1 k) (m2 k) (k2 k) W ((hW.cell (p := ⟨w.heap.size, 0, none⟩) (by simp)).trans (by simp)) (by have := hW.size; simp at this; omega)) hn)
  clear hr
  unfold shapeOk
  generalize anyQ (fun k => f k != N) n = r at *
  cases hd : deepOk D
  · rw [hd] at HM
    go_enter Tryz.func195, Tryz.ntmps195
    go_wp2_with fail
    with_reducible refine (HM.out _).mono ?_
    rintro e w' ⟨rfl, rfl⟩
    go_wp2
    go_ret
    exact ⟨rfl, hb0⟩
  · rw [hd] at HM
    by_cases hnd : (n : Int) = D
    · have hq : ((n : Int) == D) = true := by simp [hnd]
      have HD := Lib.hid (show decide ((n : Int) = D) = true by simp [hnd])
      clear hnd hd
      go_enter Tryz.func195, Tryz.ntmps195
      go_wp2_with fail
      with_reducible refine (HM.out _).mono ?_
      rintro e w' ⟨rfl, rfl⟩
      go_wp2_with fail
      with_reducible refine HC.out.mono ?_
      rintro e w' ⟨rfl, hb⟩
      have hb2 := hb0.trans (hb.mono (by simp))
      go_wp2
      go_ret
      exact ⟨by rw [HD.out]; rfl, hb2⟩
    · have hq : ((n : Int) == D) = false := by simp [hnd]
      have HD := Lib.hid (show decide ((n : Int) = D) = false by simp [hnd])
      clear hnd hd
      go_enter Tryz.func195, Tryz.ntmps195
      go_wp2_with fail
      with_reducible refine (HM.out _).mono ?_
      rintro e w' ⟨rfl, rfl⟩
      go_wp2
      go_ret
      exact ⟨by rw [HD.out]; rfl, hb0⟩

end Go.Proofs.YtoejenejleocdabGreatDoor

/- Good of a wave that Make has made; At. -/
namespace Go.Proofs.YtoejenejleocdabGreatDoor
open Go.RowKit
attribute [local irreducible] Bt.pop Bt.popF

/-- the cells of the levels, told by functions -/
theorem Wave.rows {w : World} {A : Option Addr} {d : Nat} {l : List Nat} (h : Wave w A d l) : ∃ (a1 a2 : Nat → Option Addr) (k1 k2 : Nat → Nat),
    Row3 w w.heap.size A d (fun _ => .int .i64 l.length) (fun k => .slice (a1 k) (l.length / 64 + 1) (k1 k)) (fun k => .slice (a2 k) (l.length / 64 + 1) (k2 k)) ∧
    ∀ k, k < d → IsBits w w.heap.size (a1 k) (a2 k) (Wv.lbits (d - 1 - k) (2 ^ k) l) := by
  obtain ⟨b, o, rfl, hlt, hc⟩ := h.level
  have hex : ∀ k, ∃ t : Option Addr × Option Addr × Nat × Nat, k < d → w.cell? ⟨b, o + k * 3, none⟩ = some (.int .i64 l.length) ∧ w.cell? ⟨b, o + k * 3 + 1, none⟩ = some (.slice t.1 (l.length / 64 + 1) t.2.2.1) ∧
      w.cell? ⟨b, o + k * 3 + 2, none⟩ = some (.slice t.2.1 (l.length / 64 + 1) t.2.2.2) ∧ IsBits w w.heap.size t.1 t.2.1 (Wv.lbits (d - 1 - k) (2 ^ k) l) := fun k => by
    by_cases hk : k < d
    · obtain ⟨⟨A1, c1, A2, c2, h1, h2, h3, h4⟩, hl⟩ := hc k hk
      rw [hl] at h1 h2 h3
      exact ⟨(A1, A2, c1, c2), fun _ => ⟨h1, h2, h3, h4⟩⟩
    · exact ⟨(none, none, 0, 0), fun h => absurd h hk⟩
  obtain ⟨t, ht⟩ := Classical.axiomOfChoice hex
  exact ⟨fun k => (t k).1, fun k => (t k).2.1, fun k => (t k).2.2.1, fun k => (t k).2.2.2, fun _ => ⟨b, o, rfl, hlt, fun k hk => ⟨(ht k hk).1, (ht k hk).2.1, (ht k hk).2.2.1⟩⟩, fun k hk => (ht k hk).2.2.2⟩

theorem shapeOk_wave (d : Nat) (N : Int) (h1 : 1 ≤ d) (h2 : d ≤ 16) : shapeOk d d N (fun _ => N) = true := by
  unfold shapeOk
  rw [deepOk_yes d (by omega) (by omega), anyQ_false _ _ (fun _ _ => by simp)]
  simp
theorem isShaped_wave {w : World} {A : Option Addr} {d : Nat} {l : List Nat} (h : Wave w A d l) (c : Nat) :
    Calls Tryz.prog 195 #[.agg #[.int .i64 l.length, .int .i64 d, .slice A d c]] w fun e w' => e = .returned (.bool true) ∧ Below w.heap.size w w' := by
  obtain ⟨a1, a2, k1, k2, hr, _⟩ := h.rows
  have h2 := h.d16
  have := isShaped_any l.length d A d c (fun _ => l.length) a1 a2 (fun _ => l.length / 64 + 1) k1 (fun _ => l.length / 64 + 1) k2 w hr (by omega)
  rwa [shapeOk_wave d _ h.d1 h.d16] at this

end Go.Proofs.YtoejenejleocdabGreatDoor

/- At of a wave that Make has made. -/
namespace Go.Proofs.YtoejenejleocdabGreatDoor
open Go.RowKit
attribute [local irreducible] Bt.pop Bt.popF

/-- two cells of a group -/
def grpF (F T : Nat) : Nat → Value := fun j => if j = 0 then .int .i64 F else .int .i64 T
/-- a group in block G, bits in block K, both of the call's own -/
structure RB (w : World) (G K F T N : Nat) (A1 A2 : Option Addr) (c1 c2 mp : Nat) (bs : List Bool) (W : World) : Prop where
  grp : W.rowIs G 210 2 (grpF F T)
  b0 : W.cell? ⟨K, 0, none⟩ = some (.int .i64 N)
  b1 : W.cell? ⟨K, 1, none⟩ = some (.slice A1 mp c1)
  b2 : W.cell? ⟨K, 2, none⟩ = some (.slice A2 mp c2)
  made : IsBits W W.heap.size A1 A2 bs
  old : Below w.heap.size w W
  ltK : K < W.heap.size
  own : w.heap.size ≤ G
section
variable {w : World} {G K F T N : Nat} {A1 A2 : Option Addr} {c1 c2 mp : Nat} {bs : List Bool} {W W' : World}
theorem RB.on (h : RB w G K F T N A1 A2 c1 c2 mp bs W) (hb : Below W.heap.size W W') : RB w G K F T N A1 A2 c1 c2 mp bs W' :=
  ⟨h.grp.of_block (hb.block _ h.grp.lt), (hb.cell (p := ⟨K, 0, none⟩) h.ltK).trans h.b0, (hb.cell (p := ⟨K, 1, none⟩) h.ltK).trans h.b1, (hb.cell (p := ⟨K, 2, none⟩) h.ltK).trans h.b2, (h.made.below hb).more hb.size,
    h.old.trans (hb.mono h.old.size), Nat.lt_of_lt_of_le h.ltK hb.size, h.own⟩
theorem RB.drew (h : RB w G K F T N A1 A2 c1 c2 mp bs W) : RB w G K F T N A1 A2 c1 c2 mp bs W.drew := h.on (Below.refl _ _).drew
theorem RB.g0 (h : RB w G K F T N A1 A2 c1 c2 mp bs W) : W.cell? ⟨G, 0, none⟩ = some (.int .i64 F) := h.grp.cell (i := 0) (by omega)
theorem RB.g1 (h : RB w G K F T N A1 A2 c1 c2 mp bs W) : W.cell? ⟨G, 1, none⟩ = some (.int .i64 T) := h.grp.cell (i := 1) (by omega)
theorem RB.store (h : RB w G K F T N A1 A2 c1 c2 mp bs W) (F' T' : Nat) : ((W.setCell ⟨G, 0, none⟩ (.int .i64 F')).setCell ⟨G, 1, none⟩ (.int .i64 T')).rowIs G 210 2 (grpF F' T') ∧ Below w.heap.size w ((W.setCell ⟨G, 0, none⟩ (.int .i64 F')).setCell ⟨G, 1, none⟩ (.int .i64 T')) := by
  refine ⟨((h.grp.set 0 _).set 1 _).congr (fun i hi => ?_), (h.old.setCell h.own _).setCell h.own _⟩
  match i, hi with
  | 0, _ => rfl
  | 1, _ => rfl
end

/-- where the halves stand, of level k of d -/
theorem lvl_half (d k p : Nat) (l : List Nat) (A1 A2 : Option Addr) (c1 c2 : Nat) (one : Bool) (W : World) (hk : k < d) (hp : p < 2 ^ k) (hs : l.length ≤ 17592186044416) (hl : (Wv.lbits (d - 1 - k) (2 ^ k) l).length = l.length)
    (hI : IsBits W W.heap.size A1 A2 (Wv.lbits (d - 1 - k) (2 ^ k) l)) :
    Calls Tryz.prog 197 #[.agg #[.int .i64 (Wv.st (d - k) p l : Nat), .int .i64 (Wv.st (d - k) (p + 1) l : Nat)], .agg #[.int .i64 l.length, .slice A1 (l.length / 64 + 1) c1, .slice A2 (l.length / 64 + 1) c2], .bool one] W fun e w' =>
      e = .returned (.agg #[.int .i64 (Wv.st (d - (k + 1)) (Wv.kid p one) l : Nat), .int .i64 (Wv.st (d - (k + 1)) (Wv.kid p one + 1) l : Nat)]) ∧ Below W.heap.size W w' := by
  have h := half_lev (d - 1 - k) p (2 ^ k) l A1 A2 c1 c2 (l.length / 64 + 1) W one l.length hI rfl hl rfl hs hp
  rwa [show d - 1 - k + 1 = d - k from by omega, show d - 1 - k = d - (k + 1) from by omega] at h
theorem lvl_having (d k p i : Nat) (l : List Nat) (A1 A2 : Option Addr) (c1 c2 : Nat) (one : Bool) (T first : Int) (W : World) (hk : k < d) (hp : p < 2 ^ k) (hs : l.length ≤ 17592186044416) (hl : (Wv.lbits (d - 1 - k) (2 ^ k) l).length = l.length)
    (hI : IsBits W W.heap.size A1 A2 (Wv.lbits (d - 1 - k) (2 ^ k) l)) (hX : near l.length (IntKind.i64.wrap ((Wv.st (d - k) p l : Nat) + first)) = Wv.st (d - k) p l + Wv.cnt (d - k) p (l.take i)) :
    Calls Tryz.prog 198 #[.agg #[.int .i64 (Wv.st (d - k) p l : Nat), .int .i64 T], .agg #[.int .i64 l.length, .slice A1 (l.length / 64 + 1) c1, .slice A2 (l.length / 64 + 1) c2], .bool one, .int .i64 first] W fun e w' =>
      e = .returned (.int .i64 (Wv.cnt (d - (k + 1)) (Wv.kid p one) (l.take i) : Nat)) ∧ Below W.heap.size W w' := by
  have h := having_lev (d - 1 - k) p (2 ^ k) i l A1 A2 c1 c2 (l.length / 64 + 1) W one T first l.length hI rfl hl rfl hs hp (by rw [show d - 1 - k + 1 = d - k from by omega]; exact hX)
  rwa [show d - 1 - k + 1 = d - k from by omega, show d - 1 - k = d - (k + 1) from by omega] at h
end Go.Proofs.YtoejenejleocdabGreatDoor

/- Count of a wave that Make has made. -/
namespace Go.Proofs.YtoejenejleocdabGreatDoor
open Go.RowKit
attribute [local irreducible] Bt.pop Bt.popF

theorem wrap_pow (d : Nat) (h : d ≤ 16) : wrap64 (2 ^ d) = (2 : Int) ^ d := by
  have h1 : (2 : Nat) ^ d ≤ 2 ^ 16 := Nat.pow_le_pow_right (by omega) h
  have h2 : (2 : Int) ^ d = ((2 ^ d : Nat) : Int) := by simp
  rw [h2]
  generalize (2 : Nat) ^ d = m at h1
  exact wrap64_in _ (by omega) (by omega)
theorem pow_pos2 (d : Nat) : (0 : Int) < 2 ^ d := by
  rw [show (2 : Int) ^ d = ((2 ^ d : Nat) : Int) from by simp]
  have := Nat.two_pow_pos d
  omega

/-- what Count answers -/
def countI (l : List Nat) (n i : Int) : Int := if 0 ≤ n then ((l.take (Wv.cl l.length i)).count n.toNat : Nat) else 0

set_option maxHeartbeats 1000000 in
theorem count_out {w : World} {A : Option Addr} {d : Nat} {l : List Nat} (h : Wave w A d l) (c : Nat) (n i : Int) (hi : n < 0 ∨ (2 ^ d : Int) ≤ n) :
    Calls Tryz.prog 159 #[.agg #[.int .i64 l.length, .int .i64 d, .slice A d c], .int .i64 n, .int .i64 i] w fun e w' => e = .returned (.int .i64 0) ∧ Below w.heap.size w w' := by
  have hb0 : Below w.heap.size w (w.alloc (.cells #[.int .i64 l.length, .int .i64 d, .slice A d c] 31)) := (Below.refl _ _).alloc (Nat.le_refl _) _
  have HS := Lib.hid (isShaped_wave (h.on hb0) c)
  have h16 := h.d16
  have hp2 := wrap_pow d h16
  have hpos := pow_pos2 d
  clear h
  generalize l.length = N at *
  go_enter Tryz.func159, Tryz.ntmps159
  go_wp2_with fail
  with_reducible refine HS.out.mono ?_
  rintro e w1 ⟨rfl, hb1⟩
  have c2 : w1.cell? ⟨w.heap.size, 1, none⟩ = some (.int .i64 d) := (hb1.cell (p := ⟨w.heap.size, 1, none⟩) (by simp)).trans (by simp)
  have hb2 := hb0.trans (hb1.mono (by simp))
  clear HS hb0 hb1
  rcases hi with hi | hi
  · go_wp2
    go_ret
    exact ⟨rfl, hb2⟩
  · have h0 : ¬ n < 0 := by
      generalize (2 : Int) ^ d = D at *
      omega
    have h1 : wrap64 (2 ^ d) ≤ n := by rw [hp2]; exact hi
    clear hp2 hpos hi
    go_wp2
    go_ret
    exact ⟨rfl, hb2⟩

set_option maxHeartbeats 4000000 in
theorem count_in {w : World} {A : Option Addr} {d : Nat} {l : List Nat} (h : Wave w A d l) (c : Nat) (n : Nat) (i : Int) (hn : n < 2 ^ d) (hi1 : -9223372036854775808 ≤ i) (hi2 : i ≤ 9223372036854775807) :
    Calls Tryz.prog 159 #[.agg #[.int .i64 l.length, .int .i64 d, .slice A d c], .int .i64 n, .int .i64 i] w fun e w' => e = .returned (.int .i64 ((l.take (Wv.cl l.length i)).count n : Nat)) ∧ Below w.heap.size w w' := by
  obtain ⟨wB, hwB⟩ : ∃ wB, wB = w.alloc (.cells #[.int .i64 l.length, .int .i64 d, .slice A d c] 31) := ⟨_, rfl⟩
  have hb0 : Below w.heap.size w wB := by rw [hwB]; exact (Below.refl _ _).alloc (Nat.le_refl _) _
  have hszB : wB.heap.size = w.heap.size + 1 := by rw [hwB]; simp
  have b0 : wB.cell? ⟨w.heap.size, 0, none⟩ = some (.int .i64 l.length) := by rw [hwB]; simp
  have b1 : wB.cell? ⟨w.heap.size, 1, none⟩ = some (.int .i64 d) := by rw [hwB]; simp
  have b2 : wB.cell? ⟨w.heap.size, 2, none⟩ = some (.slice A d c) := by rw [hwB]; simp
  have h := h.on hb0
  have HS := Lib.hid (isShaped_wave h c)
  have HW := Lib.hid (fun W => whole_any l.length d A d c W)
  have hsm := h.small
  have h16 := h.d16
  have h1d := h.d1
  have HL : Hid (∀ W, Below wB.heap.size wB W → ∀ k, k < d → ∃ b o A1 c1 A2 c2, A = some ⟨b, o, none⟩ ∧ b < wB.heap.size ∧ W.cell? ⟨b, o + k * 3, none⟩ = some (.int .i64 l.length) ∧ W.cell? ⟨b, o + k * 3 + 1, none⟩ = some (.slice A1 (l.length / 64 + 1) c1) ∧ W.cell? ⟨b, o + k * 3 + 2, none⟩ = some (.slice A2 (l.length / 64 + 1) c2) ∧ IsBits W W.heap.size A1 A2 (Wv.lbits (d - 1 - k) (2 ^ k) l)) := Lib.hid fun W hW k hk => by
    obtain ⟨b, o, rfl, hlt, hc⟩ := h.level
    obtain ⟨⟨A1, c1, A2, c2, h1, h2, h3, h4⟩, hl⟩ := hc k hk
    rw [hl] at h1 h2 h3
    exact ⟨b, o, A1, c1, A2, c2, rfl, hlt, (hW.cell (p := ⟨b, o + k * 3, none⟩) hlt).trans h1, (hW.cell (p := ⟨b, o + k * 3 + 1, none⟩) hlt).trans h2, (hW.cell (p := ⟨b, o + k * 3 + 2, none⟩) hlt).trans h3, (h4.below hW).more hW.size⟩
  have Hfit := Lib.hid h.fit
  have Hlen := Lib.hid (fun k hk => (h.level.choose_spec.choose_spec.2.2 k hk).2)
  have hcl := Wv.cl_le l.length i
  have Hst : Hid (Wv.st d 0 l = 0 ∧ Wv.st d (0 + 1) l = l.length ∧ near l.length (IntKind.i64.wrap ((0 : Nat) + i)) = 0 + Wv.cnt d 0 (l.take (Wv.cl l.length i))) := Lib.hid ⟨rfl, by rw [Wv.st_succ, Wv.st_zero, Wv.cnt_whole d l h.fit]; omega, by
    rw [Wv.cnt_whole d _ (fun n hn => h.fit n (List.mem_of_mem_take hn)), List.length_take, w64 _ (by omega) (by omega)]
    unfold near Wv.cl; omega⟩
  have Hend : Hid (Wv.cnt (d - d) (n / 2 ^ (d - d)) (l.take (Wv.cl l.length i)) = (l.take (Wv.cl l.length i)).count n) := Lib.hid (by rw [Nat.sub_self, Nat.pow_zero, Nat.div_one, Wv.cnt_leaf])
  have hp2 := wrap_pow d h16
  have hpos := pow_pos2 d
  have hz0 : ¬ ((n : Int) < 0) := by omega
  have hz1 : ¬ (wrap64 ((2 : Int) ^ d) ≤ (n : Int)) := by
    rw [hp2, show (2 : Int) ^ d = ((2 ^ d : Nat) : Int) from by simp]
    omega
  clear hp2 hpos
  have hn16 : n < 9223372036854775808 := by
    have h1 : (2 : Nat) ^ d ≤ 2 ^ 16 := Nat.pow_le_pow_right (by omega) h16
    omega
  generalize hJ : l.take (Wv.cl l.length i) = lj at *
  generalize Wv.cl l.length i = j at *
  clear h hcl
  go_enter Tryz.func159, Tryz.ntmps159
  go_wp2_with fail
  rw [← hwB]
  clear hwB
  with_reducible refine HS.out.mono ?_
  rintro e w1 ⟨rfl, hb1⟩
  have c0 : w1.cell? ⟨w.heap.size, 0, none⟩ = some (.int .i64 l.length) := (hb1.cell (p := ⟨w.heap.size, 0, none⟩) (by simp; omega)).trans b0
  have c1 : w1.cell? ⟨w.heap.size, 1, none⟩ = some (.int .i64 d) := (hb1.cell (p := ⟨w.heap.size, 1, none⟩) (by simp; omega)).trans b1
  have c2 : w1.cell? ⟨w.heap.size, 2, none⟩ = some (.slice A d c) := (hb1.cell (p := ⟨w.heap.size, 2, none⟩) (by simp; omega)).trans b2
  clear HS
  go_wp2_with fail
  with_reducible refine (HW.out _).mono ?_
  rintro e w2 ⟨rfl, hb3⟩
  have hb4 : Below wB.heap.size wB w2 := hb1.trans (hb3.mono hb1.size)
  have HB1 : Hid (∀ W, Below wB.heap.size wB W → W.cell? ⟨w.heap.size, 1, none⟩ = some (.int .i64 d) ∧ W.cell? ⟨w.heap.size, 2, none⟩ = some (.slice A d c)) := Lib.hid fun W hW => ⟨(hW.cell (p := ⟨w.heap.size, 1, none⟩) (by simp; omega)).trans b1, (hW.cell (p := ⟨w.heap.size, 2, none⟩) (by simp; omega)).trans b2⟩
  have hb5 : Below wB.heap.size wB (w2.alloc (.cells #[.int .i64 0, .int .i64 l.length] 210)) := hb4.alloc hb4.size _
  have d3 := (HB1.out _ hb5).2
  have hfr : (w2.alloc (.cells #[.int .i64 0, .int .i64 l.length] 210)).rowIs w2.heap.size 210 2 (grpF 0 l.length) := World.rowIs_alloc _ _ _ _ (fun i hi => by
    match i, hi with
    | 0, _ => rfl
    | 1, _ => rfl)
  clear HW c0 c1 c2 hb1 hb3 b0 b1 b2 hz0 hz1
  go_wp2
  go_loopw [8, 32] (fun s8 s W => ∃ (k : Nat) (a : Int), k ≤ d ∧ s = .int .i64 k ∧ s8 = .int .i64 a ∧ Hid (near l.length (IntKind.i64.wrap ((Wv.st (d - k) (n / 2 ^ (d - k)) l : Nat) + a)) = Wv.st (d - k) (n / 2 ^ (d - k)) l + Wv.cnt (d - k) (n / 2 ^ (d - k)) lj) ∧ Hid (k = d → a = (Wv.cnt (d - k) (n / 2 ^ (d - k)) lj : Nat)) ∧ W.rowIs w2.heap.size 210 2 (grpF (Wv.st (d - k) (n / 2 ^ (d - k)) l) (Wv.st (d - k) (n / 2 ^ (d - k) + 1) l)) ∧ Below wB.heap.size wB W)
    (fun _ s _ => d - (intOf s).toNat)
  case atStart =>
    refine ⟨0, i, Nat.zero_le _, rfl, rfl, (?_ : near l.length (IntKind.i64.wrap ((Wv.st (d - 0) (n / 2 ^ (d - 0)) l : Nat) + i)) = Wv.st (d - 0) (n / 2 ^ (d - 0)) l + Wv.cnt (d - 0) (n / 2 ^ (d - 0)) lj), (fun h => absurd h (by omega) : 0 = d → i = (Wv.cnt (d - 0) (n / 2 ^ (d - 0)) lj : Nat)), ?_, hb5⟩
    · rw [Nat.sub_zero, Nat.div_eq_of_lt hn, Hst.out.1]; exact Hst.out.2.2
    · rw [Nat.sub_zero, Nat.div_eq_of_lt hn, Hst.out.1, Hst.out.2.1]; exact hfr
  case round =>
    obtain ⟨k, a, hk, rfl, rfl, IN, IE, hG, hbW⟩ := hrel
    clear hfr hb5 d3
    by_cases hlt : k < d
    · obtain ⟨b, o, A1, c1, A2, c2, rfl, hbb, q1, q2, q3, hI⟩ := HL.out wr hbW k hlt
      have hlen := Hlen.out k hlt
      have hpk : n / 2 ^ (d - k) < 2 ^ k := Nat.div_lt_of_lt_mul (by rw [← Nat.pow_add, show d - k + k = d from by omega]; exact hn)
      have hkid : Wv.kid (n / 2 ^ (d - k)) (Wv.bit (d - 1 - k) n) = n / 2 ^ (d - (k + 1)) := by
        have h1 := Wv.kid_bit (d - 1 - k) n
        rw [show d - 1 - k + 1 = d - k from by omega] at h1
        rw [h1, show d - (k + 1) = d - 1 - k from by omega]
      have HO := Lib.hid (fun W => hasOne_any n d k W hn16 h16 hlt)
      have J0 : RB wB w2.heap.size wr.heap.size (Wv.st (d - k) (n / 2 ^ (d - k)) l) (Wv.st (d - k) (n / 2 ^ (d - k) + 1) l) l.length A1 A2 c1 c2 (l.length / 64 + 1) (Wv.lbits (d - 1 - k) (2 ^ k) l) (wr.alloc (.cells #[.int .i64 l.length, .slice A1 (l.length / 64 + 1) c1, .slice A2 (l.length / 64 + 1) c2] 100)) :=
        ⟨hG.alloc _, by simp, by simp, by simp, hI.alloc _, hbW.alloc hbW.size _, by simp, hb4.size⟩
      have HH : Hid (∀ W, RB wB w2.heap.size wr.heap.size (Wv.st (d - k) (n / 2 ^ (d - k)) l) (Wv.st (d - k) (n / 2 ^ (d - k) + 1) l) l.length A1 A2 c1 c2 (l.length / 64 + 1) (Wv.lbits (d - 1 - k) (2 ^ k) l) W → Calls Tryz.prog 197 #[.agg #[.int .i64 (Wv.st (d - k) (n / 2 ^ (d - k)) l : Nat), .int .i64 (Wv.st (d - k) (n / 2 ^ (d - k) + 1) l : Nat)], .agg #[.int .i64 l.length, .slice A1 (l.length / 64 + 1) c1, .slice A2 (l.length / 64 + 1) c2], .bool (Wv.bit (d - 1 - k) n)] W fun e w' =>
          e = .returned (.agg #[.int .i64 (Wv.st (d - (k + 1)) (n / 2 ^ (d - (k + 1))) l : Nat), .int .i64 (Wv.st (d - (k + 1)) (n / 2 ^ (d - (k + 1)) + 1) l : Nat)]) ∧ RB wB w2.heap.size wr.heap.size (Wv.st (d - k) (n / 2 ^ (d - k)) l) (Wv.st (d - k) (n / 2 ^ (d - k) + 1) l) l.length A1 A2 c1 c2 (l.length / 64 + 1) (Wv.lbits (d - 1 - k) (2 ^ k) l) w') := Lib.hid fun W hW => by
        have := lvl_half d k (n / 2 ^ (d - k)) l A1 A2 c1 c2 (Wv.bit (d - 1 - k) n) W hlt hpk hsm hlen hW.made
        rw [hkid] at this
        exact this.mono fun e w' ⟨h1, h2⟩ => ⟨h1, hW.on h2⟩
      have HV : Hid (∀ W, RB wB w2.heap.size wr.heap.size (Wv.st (d - k) (n / 2 ^ (d - k)) l) (Wv.st (d - k) (n / 2 ^ (d - k) + 1) l) l.length A1 A2 c1 c2 (l.length / 64 + 1) (Wv.lbits (d - 1 - k) (2 ^ k) l) W → Calls Tryz.prog 198 #[.agg #[.int .i64 (Wv.st (d - k) (n / 2 ^ (d - k)) l : Nat), .int .i64 (Wv.st (d - k) (n / 2 ^ (d - k) + 1) l : Nat)], .agg #[.int .i64 l.length, .slice A1 (l.length / 64 + 1) c1, .slice A2 (l.length / 64 + 1) c2], .bool (Wv.bit (d - 1 - k) n), .int .i64 a] W fun e w' =>
          e = .returned (.int .i64 (Wv.cnt (d - (k + 1)) (n / 2 ^ (d - (k + 1))) lj : Nat)) ∧ RB wB w2.heap.size wr.heap.size (Wv.st (d - k) (n / 2 ^ (d - k)) l) (Wv.st (d - k) (n / 2 ^ (d - k) + 1) l) l.length A1 A2 c1 c2 (l.length / 64 + 1) (Wv.lbits (d - 1 - k) (2 ^ k) l) w') := Lib.hid fun W hW => by
        have hX := IN.out
        rw [← hJ] at hX
        have := lvl_having d k (n / 2 ^ (d - k)) j l A1 A2 c1 c2 (Wv.bit (d - 1 - k) n) (Wv.st (d - k) (n / 2 ^ (d - k) + 1) l : Nat) a W hlt hpk hsm hlen hW.made hX
        rw [hkid, hJ] at this
        exact this.mono fun e w' ⟨h1, h2⟩ => ⟨h1, hW.on h2⟩
      have HN : Hid (near l.length (IntKind.i64.wrap ((Wv.st (d - (k + 1)) (n / 2 ^ (d - (k + 1))) l : Nat) + (Wv.cnt (d - (k + 1)) (n / 2 ^ (d - (k + 1))) lj : Nat))) = Wv.st (d - (k + 1)) (n / 2 ^ (d - (k + 1))) l + Wv.cnt (d - (k + 1)) (n / 2 ^ (d - (k + 1))) lj) := Lib.hid (by
        have s1 := Wv.cnt_take_le (d - (k + 1)) (n / 2 ^ (d - (k + 1))) j l
        rw [hJ] at s1
        have s2 : Wv.st (d - (k + 1)) (n / 2 ^ (d - (k + 1))) l + Wv.cnt (d - (k + 1)) (n / 2 ^ (d - (k + 1))) l ≤ l.length := by
          have hfit : ∀ m ∈ l, m < 2 ^ (d - (k + 1) + (k + 1)) := by rw [show d - (k + 1) + (k + 1) = d from by omega]; exact Hfit.out
          rw [← Wv.st_all (d - (k + 1)) (k + 1) l hfit]
          exact Wv.st_mono _ _ _ _ (Nat.div_lt_of_lt_mul (by rw [← Nat.pow_add, show d - (k + 1) + (k + 1) = d from by omega]; exact hn))
        rw [w64 _ (by omega) (by omega), ← Int.natCast_add]
        exact near_of _ _ (by omega))
      have hlz : (k : Int) < (d : Int) := by omega
      have hG2 : w2.heap.size < wr.heap.size := hG.lt
      clear hkid hpk hlen HL Hlen Hst hI hG IN IE
      obtain ⟨F', hF'⟩ : ∃ F', Wv.st (d - (k + 1)) (n / 2 ^ (d - (k + 1))) l = F' := ⟨_, rfl⟩
      obtain ⟨T', hT'⟩ : ∃ T', Wv.st (d - (k + 1)) (n / 2 ^ (d - (k + 1)) + 1) l = T' := ⟨_, rfl⟩
      obtain ⟨a', ha'⟩ : ∃ a', Wv.cnt (d - (k + 1)) (n / 2 ^ (d - (k + 1))) lj = a' := ⟨_, rfl⟩
      have HEq := Lib.hid (And.intro hF' (And.intro hT' ha'))
      rw [hF', hT'] at HH
      rw [ha'] at HV
      clear hF' hT' ha'
      generalize l.length / 64 + 1 = mp at *
      generalize Wv.lbits (d - 1 - k) (2 ^ k) l = bs at *
      generalize Wv.bit (d - 1 - k) n = one at *
      generalize Wv.st (d - k) (n / 2 ^ (d - k)) l = F at *
      generalize Wv.st (d - k) (n / 2 ^ (d - k) + 1) l = T at *
      have z1 := (HB1.out _ J0.old).1
      go_wp2_with fail
      with_reducible refine (HO.out _).mono ?_
      rintro e w3 ⟨rfl, rfl⟩
      obtain ⟨V, hV⟩ : ∃ V, V = wr.alloc (.cells #[.int .i64 l.length, .slice A1 mp c1, .slice A2 mp c2] 100) := ⟨_, rfl⟩
      rw [← hV] at J0 ⊢
      have J1 := J0
      clear J0 HO q1 q2 q3 z1 hV
      have j0 := J1.g0
      have j1 := J1.g1
      have j2 := J1.b0
      have j3 := J1.b1
      have j4 := J1.b2
      have J2 := J1.drew
      go_upto_region 8 with fail
      refine wp_region_takes 9 [0, 1, 2, 4, 5, 6, 7] [3, 8] (fun w' => w'.cell? ⟨w2.heap.size, 0, none⟩ = some (.int .i64 F) ∧ w'.cell? ⟨w2.heap.size, 1, none⟩ = some (.int .i64 T) ∧ w'.cell? ⟨wr.heap.size, 0, none⟩ = some (.int .i64 l.length) ∧ w'.cell? ⟨wr.heap.size, 1, none⟩ = some (.slice A1 mp c1) ∧ w'.cell? ⟨wr.heap.size, 2, none⟩ = some (.slice A2 mp c2)) (by kernel_rfl) (by kernel_rfl) ⟨j0, j1, j2, j3, j4⟩ ?_
      refine wpTakes_cons (v := ?_) _ at0 rfl ?_ ?_ ?_
      rotate_left 1
      · rintro W ⟨x0, x1, x2, x3, x4⟩
        go_simp
        rfl
      · exact fun _ _ _ h => h
      simp only [Act.put, List.setIfInBounds_toArray, List.set_cons_zero, List.set_cons_succ]
      refine wpTakes_cons (v := ?_) _ at1 rfl ?_ ?_ ?_
      rotate_left 1
      · rintro W ⟨x0, x1, x2, x3, x4⟩
        go_simp
        rfl
      · exact fun _ _ _ h => h
      simp only [Act.put, List.setIfInBounds_toArray, List.set_cons_zero, List.set_cons_succ]
      refine wpTakes_cons (v := ?_) _ at2 rfl ?_ ?_ ?_
      rotate_left 1
      · rintro W ⟨x0, x1, x2, x3, x4⟩
        go_simp
        rfl
      · exact fun _ _ _ h => h
      simp only [Act.put, List.setIfInBounds_toArray, List.set_cons_zero, List.set_cons_succ]
      refine wpTakes_cons (v := ?_) _ at4 rfl ?_ ?_ ?_
      rotate_left 1
      · rintro W ⟨x0, x1, x2, x3, x4⟩
        go_simp
        rfl
      · exact fun _ _ _ h => h
      simp only [Act.put, List.setIfInBounds_toArray, List.set_cons_zero, List.set_cons_succ]
      refine wpTakes_cons (v := ?_) _ at5 rfl ?_ ?_ ?_
      rotate_left 1
      · rintro W ⟨x0, x1, x2, x3, x4⟩
        go_simp
        rfl
      · exact fun _ _ _ h => h
      simp only [Act.put, List.setIfInBounds_toArray, List.set_cons_zero, List.set_cons_succ]
      refine wpTakes_cons (v := ?_) _ at6 rfl ?_ ?_ ?_
      rotate_left 1
      · rintro W ⟨x0, x1, x2, x3, x4⟩
        go_simp
        rfl
      · exact fun _ _ _ h => h
      simp only [Act.put, List.setIfInBounds_toArray, List.set_cons_zero, List.set_cons_succ]
      refine wpTakes_cons (v := ?_) _ at7 rfl ?_ ?_ ?_
      rotate_left 1
      · rintro W ⟨x0, x1, x2, x3, x4⟩
        go_simp
        rfl
      · exact fun _ _ _ h => h
      simp only [Act.put, List.setIfInBounds_toArray, List.set_cons_zero, List.set_cons_succ]
      refine wpTakes_nil (wpCalls_cons _ at3 rfl fun K hK => ?_)
      go_simp
      go_at_call 197
      refine (HH.out _ J2).mono ?_
      rintro e w4 ⟨rfl, J3⟩
      refine hK.out _ _ ⟨J3.g0, J3.g1, J3.b0, J3.b1, J3.b2⟩ ?_
      clear hK
      refine wpCalls_cons _ at8 rfl fun K hK => ?_
      go_simp
      go_at_call 198
      refine (HV.out _ J3).mono ?_
      rintro e w5 ⟨rfl, J4⟩
      refine hK.out _ _ ⟨J4.g0, J4.g1, J4.b0, J4.b1, J4.b2⟩ (wpCalls_nil ?_)
      clear hK J3
      simp only [List.drop_succ_cons, List.drop_zero]
      have k0 := J4.g0
      have k1 := J4.g1
      have k5 := J4.grp.frozen 0
      have k6 := J4.grp.frozen 1
      have HST := Lib.hid (J4.store F' T')
      clear J1 J2 j0 j1 j2 j3 j4 HH HV J4
      obtain ⟨e1, e2, e3⟩ := HEq.out
      clear HEq
      rw [← e3]
      go_wp2
      obtain ⟨r1, r2⟩ := HST.out
      go_roundw
      case rel => exact ⟨k + 1, _, by omega, by go_num, rfl, HN, (fun _ => rfl : k + 1 = d → ((Wv.cnt (d - (k + 1)) (n / 2 ^ (d - (k + 1))) lj : Nat) : Int) = (Wv.cnt (d - (k + 1)) (n / 2 ^ (d - (k + 1))) lj : Nat)), by rw [e1, e2]; exact r1, r2⟩
      case measure => simp [intOf]; omega
    · have hkd : k = d := by omega
      subst hkd
      have HE := Lib.hid (IE.out rfl)
      have hold := hb0.trans (hbW.mono hb0.size)
      rw [Hend.out] at HE
      rw [HE.out]
      clear HE IE IN Hst Hend
      go_wp2
      go_ret
      exact ⟨rfl, hold⟩

theorem count_wave {w : World} {A : Option Addr} {d : Nat} {l : List Nat} (h : Wave w A d l) (c : Nat) (n i : Int) (hi1 : -9223372036854775808 ≤ i) (hi2 : i ≤ 9223372036854775807) :
    Calls Tryz.prog 159 #[.agg #[.int .i64 l.length, .int .i64 d, .slice A d c], .int .i64 n, .int .i64 i] w fun e w' => e = .returned (.int .i64 (countI l n i)) ∧ Below w.heap.size w w' := by
  unfold countI
  have h2 : (2 : Int) ^ d = ((2 ^ d : Nat) : Int) := by simp
  by_cases h0 : 0 ≤ n
  · rw [if_pos h0]
    obtain ⟨k, rfl⟩ := Int.eq_ofNat_of_zero_le h0
    rw [Int.toNat_natCast]
    by_cases hk : k < 2 ^ d
    · exact count_in h c k i hk hi1 hi2
    · have e : (l.take (Wv.cl l.length i)).count k = 0 := by
        rw [List.count_eq_zero]
        intro hm
        have := h.fit _ (List.mem_of_mem_take hm); omega
      rw [e]
      exact count_out h c k i (.inr (by omega))
  · rw [if_neg h0]
    exact count_out h c n i (.inl (by omega))

end Go.Proofs.YtoejenejleocdabGreatDoor

/- wave.kinds: the closure that asks one half, and the function that calls itself. -/
namespace Go.Proofs.YtoejenejleocdabGreatDoor
open Go.RowKit
attribute [local irreducible] Bt.pop Bt.popF

theorem infoInt4 : (Tryz.prog.info? 3).map (fun i => (i.zero, i.size, i.bytes)) = some (some (.int .i64 0), 1, 8) := by kernel_rfl

/-- numbers as they are handed back -/
def up (L : List Nat) : List Int := L.map fun (n : Nat) => (n : Int)
theorem up_append (a b : List Nat) : up (a ++ b) = up a ++ up b := by unfold up; rw [List.map_append]
theorem up_len (L : List Nat) : (up L).length = L.length := by unfold up; rw [List.length_map]

theorem ks_len (l : List Nat) (i j s : Nat) : ∀ p, (Wv.ks l i j s p).length ≤ 2 ^ s := by
  induction s with
  | zero => intro p; unfold Wv.ks; split <;> simp
  | succ s ih =>
    intro p
    have h1 := ih (Wv.kid p false)
    have h2 := ih (Wv.kid p true)
    unfold Wv.ks
    rw [List.length_append, Nat.pow_succ]; omega

/-- a list in the making, said of an earlier world -/
theorem OL.since {w0 w : World} {L : List Int} {v : Value} {W : World} (h : OL w L v W) (hb : Below w0.heap.size w0 w) : OL w0 L v W := ⟨own_base h.own hb.size, hb.trans (h.old.mono hb.size)⟩
theorem OL.one (w W : World) (x : Int) (h : Below w.heap.size w W) : OL w [x] (.slice (some ⟨W.heap.size, 0, none⟩) 1 1) (W.alloc (.cells #[.int .i64 x] 3)) := by
  exact ⟨World.ownsRow_lit (e := 3) (size := 1) W #[.int .i64 x] 1 h.size (by unfold maxLen; omega) rfl, h.alloc h.size _⟩

/-- from and tu stand for the places i and j in the group p -/
structure Rep (l : List Nat) (s p i j : Nat) (fr tu : Int) : Prop where
  a : near l.length (IntKind.i64.wrap ((Wv.st s p l : Nat) + fr)) = Wv.st s p l + Wv.cnt s p (l.take i)
  b : near l.length (IntKind.i64.wrap ((Wv.st s p l : Nat) + tu)) = Wv.st s p l + Wv.cnt s p (l.take j)
  no : tu ≤ fr → Wv.cnt s p (l.take j) ≤ Wv.cnt s p (l.take i)
  yes : s = 0 → fr < tu → Wv.cnt s p (l.take i) < Wv.cnt s p (l.take j)
theorem Rep.exact (l : List Nat) (s k p i j : Nat) (hp : p < 2 ^ k) (hf : ∀ n ∈ l, n < 2 ^ (s + k)) (hs : l.length ≤ 17592186044416) : Rep l s p i j (Wv.cnt s p (l.take i) : Nat) (Wv.cnt s p (l.take j) : Nat) := by
  have h0 : Wv.st s p l + Wv.cnt s p l ≤ l.length := by rw [← Wv.st_all s k l hf]; exact Wv.st_mono _ _ _ _ hp
  have h1 := Wv.cnt_take_le s p i l
  have h2 := Wv.cnt_take_le s p j l
  refine ⟨?_, ?_, fun h => by omega, fun _ h => by omega⟩
  · rw [w64 _ (by omega) (by omega), ← Int.natCast_add]; exact near_of _ _ (by omega)
  · rw [w64 _ (by omega) (by omega), ← Int.natCast_add]; exact near_of _ _ (by omega)

/-- what the closure of kinds reads: six blocks from B on -/
structure KB (w0 : World) (B b o s k c : Nat) (l : List Nat) (F T : Nat) (fr tu : Int) (p : Nat) (A1 A2 : Option Addr) (c1 c2 mp : Nat) (W : World) : Prop where
  r0 : W.cell? ⟨B, 0, none⟩ = some (.slice (some ⟨b, o, none⟩) (s + 1) c)
  g0 : W.cell? ⟨B + 1, 0, none⟩ = some (.int .i64 F)
  g1 : W.cell? ⟨B + 1, 1, none⟩ = some (.int .i64 T)
  f0 : W.cell? ⟨B + 2, 0, none⟩ = some (.int .i64 fr)
  t0 : W.cell? ⟨B + 3, 0, none⟩ = some (.int .i64 tu)
  p0 : W.cell? ⟨B + 4, 0, none⟩ = some (.int .i64 p)
  b0 : W.cell? ⟨B + 5, 0, none⟩ = some (.int .i64 l.length)
  b1 : W.cell? ⟨B + 5, 1, none⟩ = some (.slice A1 mp c1)
  b2 : W.cell? ⟨B + 5, 2, none⟩ = some (.slice A2 mp c2)
  lv : LV W W.heap.size (some ⟨b, o, none⟩) (s + 1) k l
  made : IsBits W W.heap.size A1 A2 (Wv.lbits s (2 ^ k) l)
  big : B + 6 ≤ W.heap.size
  old : Below w0.heap.size w0 W
section
variable {w0 : World} {B b o s k c : Nat} {l : List Nat} {F T : Nat} {fr tu : Int} {p : Nat} {A1 A2 : Option Addr} {c1 c2 mp : Nat} {W W' : World}
theorem KB.on (h : KB w0 B b o s k c l F T fr tu p A1 A2 c1 c2 mp W) (hb : Below W.heap.size W W') : KB w0 B b o s k c l F T fr tu p A1 A2 c1 c2 mp W' := by
  have := h.big
  have g : ∀ x y, x < B + 6 → W'.cell? ⟨x, y, none⟩ = W.cell? ⟨x, y, none⟩ := fun x y hx => hb.cell (p := ⟨x, y, none⟩) (by simp; omega)
  exact ⟨(g _ _ (by omega)).trans h.r0, (g _ _ (by omega)).trans h.g0, (g _ _ (by omega)).trans h.g1, (g _ _ (by omega)).trans h.f0, (g _ _ (by omega)).trans h.t0, (g _ _ (by omega)).trans h.p0,
    (g _ _ (by omega)).trans h.b0, (g _ _ (by omega)).trans h.b1, (g _ _ (by omega)).trans h.b2, h.lv.on hb, (h.made.below hb).more hb.size, Nat.le_trans h.big hb.size, h.old.trans (hb.mono h.old.size)⟩
theorem KB.drew (h : KB w0 B b o s k c l F T fr tu p A1 A2 c1 c2 mp W) : KB w0 B b o s k c l F T fr tu p A1 A2 c1 c2 mp W.drew := h.on (Below.refl _ _).drew
end

/-- what kinds answers where s levels are left -/
def KindsOk (l : List Nat) (i j s k : Nat) : Prop := ∀ (p : Nat) (A : Option Addr) (c : Nat) (fr tu : Int) (W : World), p < 2 ^ k → s ≤ c → LV W W.heap.size A s k l → Rep l s p i j fr tu →
  Calls Tryz.prog 209 #[.slice A s c, .agg #[.int .i64 (Wv.st s p l : Nat), .int .i64 (Wv.st s (p + 1) l : Nat)], .int .i64 fr, .int .i64 tu, .int .i64 p] W fun e w' => ∃ v, e = .returned v ∧ OL W (up (Wv.ks l i j s p)) v w'

theorem infoBits : (Tryz.prog.info? 100).map (fun i => (i.zero, i.size, i.bytes)) = some (some (.agg #[.int .i64 0, .slice none 0 0, .slice none 0 0]), 3, 56) := by kernel_rfl
/-- all levels but the first, as a slice -/
theorem run_tail (b o s c : Nat) (hc : s + 1 ≤ c) (W : World) : ((Instr.sliceAt 29 (.slice (some ⟨b, o, none⟩) (s + 1) c) (some (.int .i64 1)) none none).run Tryz.prog W).andThen (fun v w => .ok (Next.value v) w) = .ok (Next.value (.slice (if c = 1 then some ⟨b, o, none⟩ else some ⟨b, o + 3, none⟩) s (c - 1))) W := by
  obtain ⟨i, hi, hzz⟩ := Option.map_eq_some_iff.1 infoBits
  simp only [Prod.mk.injEq] at hzz
  obtain ⟨_, hsz, _⟩ := hzz
  by_cases h1 : c = 1
  · subst h1
    obtain rfl : s = 0 := by omega
    simp [Instr.sliceAt, Instr.slice, Instr.sliceBounds, Instr.sliceBound, run_underlying Tryz.underlying29, sizeOf, typeInfo, hi, asIntOf]
  · rw [if_neg h1]
    simp [Instr.sliceAt, Instr.slice, Instr.sliceBounds, Instr.sliceBound, run_underlying Tryz.underlying29, sizeOf, typeInfo, hi, asIntOf, h1, hsz, Addr.add]
    intro h; omega

set_option maxHeartbeats 2000000 in
theorem kinds1_any (l : List Nat) (i j s k : Nat) (IH : KindsOk l i j s (k + 1)) (B b o c p : Nat) (fr tu : Int) (A1 A2 : Option Addr) (c1 c2 : Nat) (one : Bool) (w : World) (hp : p < 2 ^ k) (hc : s + 1 ≤ c) (hk : k ≤ 16) (hR : Rep l (s + 1) p i j fr tu)
    (hf : ∀ n ∈ l, n < 2 ^ (s + 1 + k)) (hs : l.length ≤ 17592186044416)
    (h : KB w B b o s k c l (Wv.st (s + 1) p l) (Wv.st (s + 1) (p + 1) l) fr tu p A1 A2 c1 c2 (l.length / 64 + 1) w) :
    Calls Tryz.prog 219 #[.bool one, .pointer (some ⟨B, 0, none⟩), .pointer (some ⟨B + 1, 0, none⟩), .pointer (some ⟨B + 5, 0, none⟩), .pointer (some ⟨B + 2, 0, none⟩), .pointer (some ⟨B + 3, 0, none⟩), .pointer (some ⟨B + 4, 0, none⟩)] w fun e w' =>
      ∃ v, e = .returned v ∧ OL w (up (Wv.ks l i j s (Wv.kid p one))) v w' := by
  have hl := Wv.lbits_len s k l hf
  have hkid : Wv.kid p one < 2 ^ (k + 1) := by unfold Wv.kid; rw [Nat.pow_succ]; have := Bt.toNat_le one; omega
  have hp4 : p < 4611686018427387903 := by
    have : 2 ^ k ≤ 2 ^ 16 := Nat.pow_le_pow_right (by omega) hk
    omega
  have hRe := Rep.exact l s (k + 1) (Wv.kid p one) i j hkid (by rw [show s + (k + 1) = s + 1 + k from by omega]; exact hf) hs
  have H1 := Lib.hid (fun W (hW : KB w B b o s k c l (Wv.st (s + 1) p l) (Wv.st (s + 1) (p + 1) l) fr tu p A1 A2 c1 c2 (l.length / 64 + 1) W) => (half_lev s p (2 ^ k) l A1 A2 c1 c2 (l.length / 64 + 1) W one l.length hW.made rfl hl rfl hs hp).mono fun e w' hh => And.intro hh.1 (hW.on hh.2))
  have H2 := Lib.hid (fun W (hW : KB w B b o s k c l (Wv.st (s + 1) p l) (Wv.st (s + 1) (p + 1) l) fr tu p A1 A2 c1 c2 (l.length / 64 + 1) W) => (having_lev s p (2 ^ k) i l A1 A2 c1 c2 (l.length / 64 + 1) W one (Wv.st (s + 1) (p + 1) l : Nat) fr l.length hW.made rfl hl rfl hs hp hR.a).mono fun e w' hh => And.intro hh.1 (hW.on hh.2))
  have H3 := Lib.hid (fun W (hW : KB w B b o s k c l (Wv.st (s + 1) p l) (Wv.st (s + 1) (p + 1) l) fr tu p A1 A2 c1 c2 (l.length / 64 + 1) W) => (having_lev s p (2 ^ k) j l A1 A2 c1 c2 (l.length / 64 + 1) W one (Wv.st (s + 1) (p + 1) l : Nat) tu l.length hW.made rfl hl rfl hs hp hR.b).mono fun e w' hh => And.intro hh.1 (hW.on hh.2))
  have H4 := Lib.hid (fun W => longer_any p one W hp4)
  have H5 := Lib.hid (fun W (hW : KB w B b o s k c l (Wv.st (s + 1) p l) (Wv.st (s + 1) (p + 1) l) fr tu p A1 A2 c1 c2 (l.length / 64 + 1) W) => (IH (Wv.kid p one) (if c = 1 then some ⟨b, o, none⟩ else some ⟨b, o + 3, none⟩) (c - 1) _ _ W hkid (by omega) (by
    by_cases h1 : c = 1
    · intro h0; omega
    · rw [if_neg h1]; exact hW.lv.tail) hRe).mono fun e w' hh => (⟨hh.choose, hh.choose_spec.1, hh.choose_spec.2.since hW.old, hW.on hh.choose_spec.2.old⟩ : ∃ v, e = .returned v ∧ OL w (up (Wv.ks l i j s (Wv.kid p one))) v w' ∧ KB w B b o s k c l (Wv.st (s + 1) p l) (Wv.st (s + 1) (p + 1) l) fr tu p A1 A2 c1 c2 (l.length / 64 + 1) w'))
  have h0 := h.drew
  obtain ⟨j0, j1, j2, j3, j4, j5, j6, j7, j8⟩ : _ ∧ _ ∧ _ ∧ _ ∧ _ ∧ _ ∧ _ ∧ _ ∧ _ := ⟨h.r0, h.g0, h.g1, h.f0, h.t0, h.p0, h.b0, h.b1, h.b2⟩
  clear hRe hkid hp4 hR IH hl hf
  generalize l.length / 64 + 1 = mp at *
  generalize up (Wv.ks l i j s (Wv.kid p one)) = L at *
  generalize Wv.st s (Wv.kid p one) l = F' at *
  generalize Wv.st s (Wv.kid p one + 1) l = T' at *
  generalize Wv.cnt s (Wv.kid p one) (l.take i) = fr' at *
  generalize Wv.cnt s (Wv.kid p one) (l.take j) = tu' at *
  generalize Wv.kid p one = p' at *
  generalize Wv.st (s + 1) p l = F at *
  generalize Wv.st (s + 1) (p + 1) l = T at *
  have HSL := Lib.hid (fun W => run_tail b o s c hc W)
  generalize (if c = 1 then some (⟨b, o, none⟩ : Addr) else some ⟨b, o + 3, none⟩) = A' at *
  go_enter Tryz.func219, Tryz.ntmps219
  go_wp2_with fail
  refine wp_region_takes 20 [0, 1, 2, 3, 4, 6, 7, 8, 9, 11, 12, 13, 14, 16, 17] [5, 10, 15, 18, 19] (fun w' => w'.cell? ⟨B, 0, none⟩ = some (.slice (some ⟨b, o, none⟩) (s + 1) c) ∧ w'.cell? ⟨B + 1, 0, none⟩ = some (.int .i64 F) ∧ w'.cell? ⟨B + 1, 1, none⟩ = some (.int .i64 T) ∧ w'.cell? ⟨B + 2, 0, none⟩ = some (.int .i64 fr) ∧ w'.cell? ⟨B + 3, 0, none⟩ = some (.int .i64 tu) ∧ w'.cell? ⟨B + 4, 0, none⟩ = some (.int .i64 p) ∧
      w'.cell? ⟨B + 5, 0, none⟩ = some (.int .i64 l.length) ∧ w'.cell? ⟨B + 5, 1, none⟩ = some (.slice A1 mp c1) ∧ w'.cell? ⟨B + 5, 2, none⟩ = some (.slice A2 mp c2)) (by kernel_rfl) (by kernel_rfl) ⟨j0, j1, j2, j3, j4, j5, j6, j7, j8⟩ ?_
  clear h j0 j1 j2 j3 j4 j5 j6 j7 j8
  refine wpTakes_cons (v := ?_) _ at0 rfl ?_ ?_ ?_
  rotate_left 1
  · rintro W ⟨x0, x1, x2, x3, x4, x5, x6, x7, x8⟩
    go_simp
    rfl
  · exact fun _ _ _ h => h
  simp only [Act.put, List.setIfInBounds_toArray, List.set_cons_zero, List.set_cons_succ]
  refine wpTakes_cons (v := .slice A' s (c - 1)) _ at1 rfl ?_ ?_ ?_
  · rintro W ⟨x0, x1, x2, x3, x4, x5, x6, x7, x8⟩
    simp only [execOp, Sem.run_bind, Sem.run_pure, Option.map_some, Option.map_none]
    exact (HSL.out W)
  · exact fun _ _ _ h => h
  simp only [Act.put, List.setIfInBounds_toArray, List.set_cons_zero, List.set_cons_succ]
  refine wpTakes_cons (v := ?_) _ at2 rfl ?_ ?_ ?_
  rotate_left 1
  · rintro W ⟨x0, x1, x2, x3, x4, x5, x6, x7, x8⟩
    go_simp
    rfl
  · exact fun _ _ _ h => h
  simp only [Act.put, List.setIfInBounds_toArray, List.set_cons_zero, List.set_cons_succ]
  refine wpTakes_cons (v := ?_) _ at3 rfl ?_ ?_ ?_
  rotate_left 1
  · rintro W ⟨x0, x1, x2, x3, x4, x5, x6, x7, x8⟩
    go_simp
    rfl
  · exact fun _ _ _ h => h
  simp only [Act.put, List.setIfInBounds_toArray, List.set_cons_zero, List.set_cons_succ]
  refine wpTakes_cons (v := ?_) _ at4 rfl ?_ ?_ ?_
  rotate_left 1
  · rintro W ⟨x0, x1, x2, x3, x4, x5, x6, x7, x8⟩
    go_simp
    rfl
  · exact fun _ _ _ h => h
  simp only [Act.put, List.setIfInBounds_toArray, List.set_cons_zero, List.set_cons_succ]
  refine wpTakes_cons (v := ?_) _ at6 rfl ?_ ?_ ?_
  rotate_left 1
  · rintro W ⟨x0, x1, x2, x3, x4, x5, x6, x7, x8⟩
    go_simp
    rfl
  · exact fun _ _ _ h => h
  simp only [Act.put, List.setIfInBounds_toArray, List.set_cons_zero, List.set_cons_succ]
  refine wpTakes_cons (v := ?_) _ at7 rfl ?_ ?_ ?_
  rotate_left 1
  · rintro W ⟨x0, x1, x2, x3, x4, x5, x6, x7, x8⟩
    go_simp
    rfl
  · exact fun _ _ _ h => h
  simp only [Act.put, List.setIfInBounds_toArray, List.set_cons_zero, List.set_cons_succ]
  refine wpTakes_cons (v := ?_) _ at8 rfl ?_ ?_ ?_
  rotate_left 1
  · rintro W ⟨x0, x1, x2, x3, x4, x5, x6, x7, x8⟩
    go_simp
    rfl
  · exact fun _ _ _ h => h
  simp only [Act.put, List.setIfInBounds_toArray, List.set_cons_zero, List.set_cons_succ]
  refine wpTakes_cons (v := ?_) _ at9 rfl ?_ ?_ ?_
  rotate_left 1
  · rintro W ⟨x0, x1, x2, x3, x4, x5, x6, x7, x8⟩
    go_simp
    rfl
  · exact fun _ _ _ h => h
  simp only [Act.put, List.setIfInBounds_toArray, List.set_cons_zero, List.set_cons_succ]
  refine wpTakes_cons (v := ?_) _ at11 rfl ?_ ?_ ?_
  rotate_left 1
  · rintro W ⟨x0, x1, x2, x3, x4, x5, x6, x7, x8⟩
    go_simp
    rfl
  · exact fun _ _ _ h => h
  simp only [Act.put, List.setIfInBounds_toArray, List.set_cons_zero, List.set_cons_succ]
  refine wpTakes_cons (v := ?_) _ at12 rfl ?_ ?_ ?_
  rotate_left 1
  · rintro W ⟨x0, x1, x2, x3, x4, x5, x6, x7, x8⟩
    go_simp
    rfl
  · exact fun _ _ _ h => h
  simp only [Act.put, List.setIfInBounds_toArray, List.set_cons_zero, List.set_cons_succ]
  refine wpTakes_cons (v := ?_) _ at13 rfl ?_ ?_ ?_
  rotate_left 1
  · rintro W ⟨x0, x1, x2, x3, x4, x5, x6, x7, x8⟩
    go_simp
    rfl
  · exact fun _ _ _ h => h
  simp only [Act.put, List.setIfInBounds_toArray, List.set_cons_zero, List.set_cons_succ]
  refine wpTakes_cons (v := ?_) _ at14 rfl ?_ ?_ ?_
  rotate_left 1
  · rintro W ⟨x0, x1, x2, x3, x4, x5, x6, x7, x8⟩
    go_simp
    rfl
  · exact fun _ _ _ h => h
  simp only [Act.put, List.setIfInBounds_toArray, List.set_cons_zero, List.set_cons_succ]
  refine wpTakes_cons (v := ?_) _ at16 rfl ?_ ?_ ?_
  rotate_left 1
  · rintro W ⟨x0, x1, x2, x3, x4, x5, x6, x7, x8⟩
    go_simp
    rfl
  · exact fun _ _ _ h => h
  simp only [Act.put, List.setIfInBounds_toArray, List.set_cons_zero, List.set_cons_succ]
  refine wpTakes_cons (v := ?_) _ at17 rfl ?_ ?_ ?_
  rotate_left 1
  · rintro W ⟨x0, x1, x2, x3, x4, x5, x6, x7, x8⟩
    go_simp
    rfl
  · exact fun _ _ _ h => h
  simp only [Act.put, List.setIfInBounds_toArray, List.set_cons_zero, List.set_cons_succ]
  refine wpTakes_nil ?_
  refine wpCalls_cons _ at5 rfl fun K hK => ?_
  go_simp
  go_at_call 197
  refine (H1.out _ h0).mono ?_
  clear h0
  rintro e w3 ⟨rfl, h0⟩
  refine hK.out _ _ ⟨h0.r0, h0.g0, h0.g1, h0.f0, h0.t0, h0.p0, h0.b0, h0.b1, h0.b2⟩ ?_
  clear hK
  refine wpCalls_cons _ at10 rfl fun K hK => ?_
  go_simp
  go_at_call 198
  refine (H2.out _ h0).mono ?_
  clear h0
  rintro e w3 ⟨rfl, h0⟩
  refine hK.out _ _ ⟨h0.r0, h0.g0, h0.g1, h0.f0, h0.t0, h0.p0, h0.b0, h0.b1, h0.b2⟩ ?_
  clear hK
  refine wpCalls_cons _ at15 rfl fun K hK => ?_
  go_simp
  go_at_call 198
  refine (H3.out _ h0).mono ?_
  clear h0
  rintro e w3 ⟨rfl, h0⟩
  refine hK.out _ _ ⟨h0.r0, h0.g0, h0.g1, h0.f0, h0.t0, h0.p0, h0.b0, h0.b1, h0.b2⟩ ?_
  clear hK
  refine wpCalls_cons _ at18 rfl fun K hK => ?_
  go_simp
  go_at_call 220
  refine (H4.out _).mono ?_
  rintro e w3 ⟨rfl, rfl⟩
  refine hK.out _ _ ⟨h0.r0, h0.g0, h0.g1, h0.f0, h0.t0, h0.p0, h0.b0, h0.b1, h0.b2⟩ ?_
  clear hK
  refine wpCalls_cons _ at19 rfl fun K hK => ?_
  go_simp
  go_at_call 209
  refine (H5.out _ h0).mono ?_
  rintro e w3 ⟨v, rfl, J5, h6⟩
  refine hK.out _ _ ⟨h6.r0, h6.g0, h6.g1, h6.f0, h6.t0, h6.p0, h6.b0, h6.b1, h6.b2⟩ (wpCalls_nil ?_)
  clear hK h0 h6
  simp only [List.drop_succ_cons, List.drop_zero]
  obtain ⟨A9, c9, rfl, _⟩ := own_slice J5.own
  go_wp2
  go_ret
  exact ⟨_, rfl, J5⟩

end Go.Proofs.YtoejenejleocdabGreatDoor

/- wave.kinds, for however many levels are left; Kinds. -/
namespace Go.Proofs.YtoejenejleocdabGreatDoor
open Go.RowKit
attribute [local irreducible] Bt.pop Bt.popF

theorem KB.here {w0 : World} {B b o s k c : Nat} {l : List Nat} {F T : Nat} {fr tu : Int} {p : Nat} {A1 A2 : Option Addr} {c1 c2 mp : Nat} {W : World} (h : KB w0 B b o s k c l F T fr tu p A1 A2 c1 c2 mp W) : KB W B b o s k c l F T fr tu p A1 A2 c1 c2 mp W :=
  ⟨h.r0, h.g0, h.g1, h.f0, h.t0, h.p0, h.b0, h.b1, h.b2, h.lv, h.made, h.big, Below.refl _ _⟩
/-- the five blocks of kinds -/
def five (w : World) (A : Option Addr) (s c : Nat) (F T : Nat) (fr tu : Int) (p : Nat) : World :=
  ((((w.alloc (.cells #[.slice A s c] 29)).alloc (.cells #[.int .i64 F, .int .i64 T] 210)).alloc (.cells #[.int .i64 fr] 3)).alloc (.cells #[.int .i64 tu] 3)).alloc (.cells #[.int .i64 p] 3)
theorem five_below (w : World) (A : Option Addr) (s c F T : Nat) (fr tu : Int) (p : Nat) : Below w.heap.size w (five w A s c F T fr tu p) :=
  (((((Below.refl _ _).alloc (Nat.le_refl _) _).alloc (by simp) _).alloc (by simp; omega) _).alloc (by simp; omega) _).alloc (by simp; omega) _
theorem five_size (w : World) (A : Option Addr) (s c F T : Nat) (fr tu : Int) (p : Nat) : (five w A s c F T fr tu p).heap.size = w.heap.size + 5 := by simp [five]
theorem five_cells (w : World) (A : Option Addr) (s c F T : Nat) (fr tu : Int) (p : Nat) :
    (five w A s c F T fr tu p).cell? ⟨w.heap.size, 0, none⟩ = some (.slice A s c) ∧ (five w A s c F T fr tu p).cell? ⟨w.heap.size + 1, 0, none⟩ = some (.int .i64 F) ∧ (five w A s c F T fr tu p).cell? ⟨w.heap.size + 1, 1, none⟩ = some (.int .i64 T) ∧
    (five w A s c F T fr tu p).cell? ⟨w.heap.size + 2, 0, none⟩ = some (.int .i64 fr) ∧ (five w A s c F T fr tu p).cell? ⟨w.heap.size + 3, 0, none⟩ = some (.int .i64 tu) ∧ (five w A s c F T fr tu p).cell? ⟨w.heap.size + 4, 0, none⟩ = some (.int .i64 p) := by
  unfold five
  have lt : ∀ (v : World) (o : Obj) (x y : Nat), x < v.heap.size → (v.alloc o).cell? ⟨x, y, none⟩ = v.cell? ⟨x, y, none⟩ := fun v o x y hx => World.cell?_alloc_lt _ _ _ hx
  generalize hv1 : w.alloc _ = v1
  have s1 : v1.heap.size = w.heap.size + 1 := by rw [← hv1]; simp
  have a1 : v1.cell? ⟨w.heap.size, 0, none⟩ = some (.slice A s c) := by rw [← hv1]; simp
  generalize hv2 : v1.alloc _ = v2
  have s2 : v2.heap.size = w.heap.size + 2 := by rw [← hv2]; simp [s1]
  have a2 : v2.cell? ⟨w.heap.size + 1, 0, none⟩ = some (.int .i64 F) := by rw [← hv2, ← s1]; simp
  have a3 : v2.cell? ⟨w.heap.size + 1, 1, none⟩ = some (.int .i64 T) := by rw [← hv2, ← s1]; simp
  generalize hv3 : v2.alloc _ = v3
  have s3 : v3.heap.size = w.heap.size + 3 := by rw [← hv3]; simp [s2]
  have a4 : v3.cell? ⟨w.heap.size + 2, 0, none⟩ = some (.int .i64 fr) := by rw [← hv3, ← s2]; simp
  generalize hv4 : v3.alloc _ = v4
  have s4 : v4.heap.size = w.heap.size + 4 := by rw [← hv4]; simp [s3]
  have a5 : v4.cell? ⟨w.heap.size + 3, 0, none⟩ = some (.int .i64 tu) := by rw [← hv4, ← s3]; simp
  refine ⟨?_, ?_, ?_, ?_, ?_, by rw [← s4]; simp⟩
  · rw [lt _ _ _ _ (by omega), ← hv4, lt _ _ _ _ (by omega), ← hv3, lt _ _ _ _ (by omega), ← hv2, lt _ _ _ _ (by omega)]; exact a1
  · rw [lt _ _ _ _ (by omega), ← hv4, lt _ _ _ _ (by omega), ← hv3, lt _ _ _ _ (by omega)]; exact a2
  · rw [lt _ _ _ _ (by omega), ← hv4, lt _ _ _ _ (by omega), ← hv3, lt _ _ _ _ (by omega)]; exact a3
  · rw [lt _ _ _ _ (by omega), ← hv4, lt _ _ _ _ (by omega)]; exact a4
  · rw [lt _ _ _ _ (by omega)]; exact a5

set_option maxHeartbeats 1000000 in
theorem kinds_none (l : List Nat) (i j s p : Nat) (A : Option Addr) (c : Nat) (fr tu : Int) (w : World) (hR : Rep l s p i j fr tu) (h : tu ≤ fr) :
    Calls Tryz.prog 209 #[.slice A s c, .agg #[.int .i64 (Wv.st s p l : Nat), .int .i64 (Wv.st s (p + 1) l : Nat)], .int .i64 fr, .int .i64 tu, .int .i64 p] w fun e w' => ∃ v, e = .returned v ∧ OL w (up (Wv.ks l i j s p)) v w' := by
  have HK := Lib.hid (show up (Wv.ks l i j s p) = [] by rw [Wv.ks_no l i j s p (hR.no h)]; rfl)
  have hb := five_below w A s c (Wv.st s p l) (Wv.st s (p + 1) l) fr tu p
  rw [HK.out]
  clear HK hR
  generalize Wv.st s p l = F at *
  generalize Wv.st s (p + 1) l = T at *
  unfold five at hb
  go_enter Tryz.func209, Tryz.ntmps209
  go_wp2
  go_ret
  exact ⟨_, rfl, OL.nil _ _ hb⟩

set_option maxHeartbeats 1000000 in
theorem kinds_zero (l : List Nat) (i j k : Nat) : KindsOk l i j 0 k := by
  intro p A c fr tu w hp hc hlv hR
  by_cases h : tu ≤ fr
  · exact kinds_none l i j 0 p A c fr tu w hR h
  · have HK := Lib.hid (show up (Wv.ks l i j 0 p) = [(p : Int)] by unfold Wv.ks; rw [if_pos (hR.yes rfl (by omega))]; rfl)
    have hb := five_below w A 0 c (Wv.st 0 p l) (Wv.st 0 (p + 1) l) fr tu p
    have hO := OL.one w _ p hb
    rw [five_size] at hO
    rw [HK.out]
    clear HK hR hlv hb
    generalize Wv.st 0 p l = F at *
    generalize Wv.st 0 (p + 1) l = T at *
    unfold five at hO
    go_enter Tryz.func209, Tryz.ntmps209
    go_wp2
    go_ret
    exact ⟨_, rfl, hO⟩

set_option maxHeartbeats 2000000 in
theorem kinds_step (l : List Nat) (i j s k : Nat) (IH : KindsOk l i j s (k + 1)) (hk : s + 1 + k ≤ 16) (hf : ∀ n ∈ l, n < 2 ^ (s + 1 + k)) (hs : l.length ≤ 17592186044416) : KindsOk l i j (s + 1) k := by
  intro p A c fr tu w hp hc hlv hR
  by_cases h : tu ≤ fr
  · exact kinds_none l i j (s + 1) p A c fr tu w hR h
  · obtain ⟨b, o, rfl, hblt, hlev⟩ := hlv (by omega)
    have hl := Wv.lbits_len s k l hf
    obtain ⟨A1, c1, A2, c2, q1, q2, q3, hI⟩ := hlev 0 (by omega)
    simp only [Nat.zero_mul, Nat.add_zero, Nat.sub_zero, Nat.add_sub_cancel] at q1 q2 q3 hI
    rw [hl] at q1 q2 q3
    have hb := five_below w (some ⟨b, o, none⟩) (s + 1) c (Wv.st (s + 1) p l) (Wv.st (s + 1) (p + 1) l) fr tu p
    have hsz := five_size w (some ⟨b, o, none⟩) (s + 1) c (Wv.st (s + 1) p l) (Wv.st (s + 1) (p + 1) l) fr tu p
    obtain ⟨d0, d1, d2, d3, d4, d5⟩ := five_cells w (some ⟨b, o, none⟩) (s + 1) c (Wv.st (s + 1) p l) (Wv.st (s + 1) (p + 1) l) fr tu p
    obtain ⟨V, hV⟩ : ∃ V, V = five w (some ⟨b, o, none⟩) (s + 1) c (Wv.st (s + 1) p l) (Wv.st (s + 1) (p + 1) l) fr tu p := ⟨_, rfl⟩
    rw [← hV] at hb hsz d0 d1 d2 d3 d4 d5
    have e1 : V.cell? ⟨b, o, none⟩ = some (.int .i64 l.length) := (hb.cell (p := ⟨b, o, none⟩) hblt).trans q1
    have e2 : V.cell? ⟨b, o + 1, none⟩ = some (.slice A1 (l.length / 64 + 1) c1) := (hb.cell (p := ⟨b, o + 1, none⟩) hblt).trans q2
    have e3 : V.cell? ⟨b, o + 2, none⟩ = some (.slice A2 (l.length / 64 + 1) c2) := (hb.cell (p := ⟨b, o + 2, none⟩) hblt).trans q3
    obtain ⟨V2, hV2⟩ : ∃ V2, V2 = V.alloc (.cells #[.int .i64 l.length, .slice A1 (l.length / 64 + 1) c1, .slice A2 (l.length / 64 + 1) c2] 100) := ⟨_, rfl⟩
    have hb2 : Below V.heap.size V V2 := by rw [hV2]; exact (Below.refl _ _).alloc (Nat.le_refl _) _
    have hb3 : Below w.heap.size w V2 := hb.trans (hb2.mono hb.size)
    have K0 : KB w w.heap.size b o s k c l (Wv.st (s + 1) p l) (Wv.st (s + 1) (p + 1) l) fr tu p A1 A2 c1 c2 (l.length / 64 + 1) V2 := by
      have g : ∀ x y, x < w.heap.size + 5 → V2.cell? ⟨x, y, none⟩ = V.cell? ⟨x, y, none⟩ := fun x y hx => hb2.cell (p := ⟨x, y, none⟩) (by simp; omega)
      refine ⟨(g _ _ (by omega)).trans d0, (g _ _ (by omega)).trans d1, (g _ _ (by omega)).trans d2, (g _ _ (by omega)).trans d3, (g _ _ (by omega)).trans d4, (g _ _ (by omega)).trans d5, ?_, ?_, ?_, hlv.on hb3, (hI.below hb3).more hb3.size, ?_, hb3⟩
      · rw [hV2, ← hsz]; simp
      · rw [hV2, ← hsz]; simp
      · rw [hV2, ← hsz]; simp
      · rw [hV2]; simp [hsz]
    have HC := Lib.hid (fun (one : Bool) (W : World) (hW : KB w w.heap.size b o s k c l (Wv.st (s + 1) p l) (Wv.st (s + 1) (p + 1) l) fr tu p A1 A2 c1 c2 (l.length / 64 + 1) W) => kinds1_any l i j s k IH w.heap.size b o c p fr tu A1 A2 c1 c2 one W hp hc (by omega) hR hf hs hW.here)
    have n1 := ks_len l i j s (Wv.kid p false)
    have n2 := ks_len l i j s (Wv.kid p true)
    have n3 : 2 ^ s ≤ 2 ^ 16 := Nat.pow_le_pow_right (by omega) (by omega)
    have HK := Lib.hid (show up (Wv.ks l i j (s + 1) p) = up (Wv.ks l i j s (Wv.kid p false)) ++ up (Wv.ks l i j s (Wv.kid p true)) by rw [← up_append]; rfl)
    rw [HK.out]
    rw [← up_len] at n1 n2
    have HCf := Lib.hid (HC.out false V2 K0)
    have HCt := Lib.hid (HC.out true)
    generalize up (Wv.ks l i j s (Wv.kid p false)) = L1 at *
    generalize up (Wv.ks l i j s (Wv.kid p true)) = L2 at *
    have m1 : L1.length + L2.length ≤ maxLen := by unfold maxLen; omega
    have m2 : (L1.length + L2.length) * 8 ≤ 140737488355328 := by omega
    have K1 := Lib.hid K0
    have HB3 := Lib.hid hb3
    clear HK HC K0 n1 n2 n3 hR hlv hlev IH hf q1 q2 q3 hI hl hb hb2 hb3 d1 d2
    generalize Wv.st (s + 1) p l = F at *
    generalize Wv.st (s + 1) (p + 1) l = T at *
    generalize l.length / 64 + 1 = mp at *
    have z0 : ¬ ((s : Int) + 1 = 0) := by omega
    unfold five at hV
    have HV := Lib.hid hV
    have HV2 := Lib.hid hV2
    have HSZ := Lib.hid hsz
    clear hV hV2 hsz
    go_enter Tryz.func209, Tryz.ntmps209
    go_upto_region 1 with fail
    rw [← HV.out]
    clear HV
    simp only [Nat.add_assoc, Nat.reduceAdd]
    go_upto_region 7 with fail
    rw [← HV2.out]
    rw [HSZ.out]
    clear HV2 d0 d3 d4 d5 e1 e2 e3 HSZ
    go_wp2_with fail
    with_reducible refine HCf.out.mono ?_
    rintro e w1 ⟨v1, rfl, O1⟩
    have K2 := Lib.hid (K1.out.on O1.old)
    have HCu := Lib.hid (HCt.out w1 K2.out)
    clear K1 HCf HCt
    go_wp2_with fail
    with_reducible refine HCu.out.mono ?_
    rintro e w2 ⟨v2, rfl, O2⟩
    have O1' := (O1.since HB3.out).on O2.old
    obtain ⟨A9, c9, rfl, _⟩ := own_slice O2.own
    obtain ⟨_, hr9⟩ := own_row (0 : Int) O2.own
    have hbase := O1'.old.size
    have HJ : Hid (∀ v' W', W'.ownsRow w.heap.size 3 1 v' (L1.length + L2.length) (L1.map (Value.int .i64) ++ (List.range L2.length).map (fun i => .int .i64 (L2.getD i 0))) → w2.grownBy W' v1.ownBlock → OL w (L1 ++ L2) v' W') := Lib.hid fun v' W' h1 h2 => by
      refine ⟨?_, O1'.old.grown h2 O1'.old.size (fun g hg => (O1'.own.lt g hg).1)⟩
      rw [List.length_append, List.map_append, map_range_getD L2 0]
      exact h1
    clear HCu K2 O1
    go_wp2_with (at_builtin; refine wpList_app_row _ rfl _ _ 22 rfl w.heap.size 3 (.int .i64 0) 8 Tryz.underlying22 infoInt4 rfl _ L1.length (L1.map (Value.int .i64)) rfl O1'.own _ L2.length c9 _ rfl hr9 (fun _ _ => rfl) m1 m2 hbase ?_; intro v' w3 h2 h3 h4; obtain ⟨A8, c8, rfl, _⟩ := own_slice h2)
    go_ret
    exact ⟨_, rfl, HJ.out _ _ h2 h3⟩

theorem kinds_all (l : List Nat) (i j : Nat) (hs : l.length ≤ 17592186044416) : ∀ s k, s + k ≤ 16 → (∀ n ∈ l, n < 2 ^ (s + k)) → KindsOk l i j s k
  | 0, k, _, _ => kinds_zero l i j k
  | s + 1, k, hk, hf => kinds_step l i j s k (kinds_all l i j hs s (k + 1) (by omega) (by rw [show s + (k + 1) = s + 1 + k from by omega]; exact hf)) hk hf hs

end Go.Proofs.YtoejenejleocdabGreatDoor

/- Kinds of a wave that Make has made. -/
namespace Go.Proofs.YtoejenejleocdabGreatDoor
open Go.RowKit
attribute [local irreducible] Bt.pop Bt.popF

theorem Rep.top (l : List Nat) (d : Nat) (fr tu : Int) (hf : ∀ n ∈ l, n < 2 ^ d) (h1 : 1 ≤ d) (f1 : -9223372036854775808 ≤ fr) (f2 : fr ≤ 9223372036854775807) (t1 : -9223372036854775808 ≤ tu) (t2 : tu ≤ 9223372036854775807) : Rep l d 0 (Wv.cl l.length fr) (Wv.cl l.length tu) fr tu := by
  have hc : ∀ x : Int, Wv.cnt d 0 (l.take (Wv.cl l.length x)) = Wv.cl l.length x := fun x => by
    rw [Wv.cnt_whole d _ (fun n hn => hf n (List.mem_of_mem_take hn)), List.length_take]
    have := Wv.cl_le l.length x; omega
  refine ⟨?_, ?_, ?_, fun h => by omega⟩
  · rw [hc, Wv.st_zero, w64 _ (by omega) (by omega)]; unfold near Wv.cl; omega
  · rw [hc, Wv.st_zero, w64 _ (by omega) (by omega)]; unfold near Wv.cl; omega
  · intro h; rw [hc, hc]; unfold Wv.cl; omega

/-- the block in which a function keeps a wave -/
structure WB (w : World) (N : Nat) (A : Option Addr) (d c : Nat) (l : List Nat) (W : World) : Prop where
  c0 : W.cell? ⟨w.heap.size, 0, none⟩ = some (.int .i64 N)
  c1 : W.cell? ⟨w.heap.size, 1, none⟩ = some (.int .i64 d)
  c2 : W.cell? ⟨w.heap.size, 2, none⟩ = some (.slice A d c)
  wave : Wave W A d l
  lt : w.heap.size < W.heap.size
  old : Below w.heap.size w W
theorem WB.on {w : World} {N : Nat} {A : Option Addr} {d c : Nat} {l : List Nat} {W W' : World} (h : WB w N A d c l W) (hb : Below W.heap.size W W') : WB w N A d c l W' :=
  ⟨(hb.cell (p := ⟨w.heap.size, 0, none⟩) h.lt).trans h.c0, (hb.cell (p := ⟨w.heap.size, 1, none⟩) h.lt).trans h.c1, (hb.cell (p := ⟨w.heap.size, 2, none⟩) h.lt).trans h.c2, h.wave.on hb, Nat.lt_of_lt_of_le h.lt hb.size, h.old.trans (hb.mono h.old.size)⟩
theorem WB.start {w : World} {A : Option Addr} {d : Nat} {l : List Nat} (h : Wave w A d l) (N c : Nat) (t : TypeId) : WB w N A d c l (w.alloc (.cells #[.int .i64 N, .int .i64 d, .slice A d c] t)) :=
  ⟨by simp, by simp, by simp, h.on ((Below.refl _ _).alloc (Nat.le_refl _) _), by simp, (Below.refl _ _).alloc (Nat.le_refl _) _⟩

set_option maxHeartbeats 2000000 in
theorem kinds_wave {w : World} {A : Option Addr} {d : Nat} {l : List Nat} (h : Wave w A d l) (c : Nat) (hc : d ≤ c) (fr tu : Int) (f1 : -9223372036854775808 ≤ fr) (f2 : fr ≤ 9223372036854775807) (t1 : -9223372036854775808 ≤ tu) (t2 : tu ≤ 9223372036854775807) :
    Calls Tryz.prog 187 #[.agg #[.int .i64 l.length, .int .i64 d, .slice A d c], .int .i64 fr, .int .i64 tu] w fun e w' => ∃ v, e = .returned v ∧ OL w (up (Wv.kinds l (Wv.cl l.length fr) (Wv.cl l.length tu) (2 ^ d))) v w' := by
  have hB : WB w l.length A d c l _ := WB.start h l.length c 31
  have h16 := h.d16
  have HS := Lib.hid (fun W (hW : WB w l.length A d c l W) => (isShaped_wave hW.wave c).mono fun e w' hh => And.intro hh.1 (hW.on hh.2))
  have HW := Lib.hid (fun W (hW : WB w l.length A d c l W) => (whole_any l.length d A d c W).mono fun e w' hh => And.intro hh.1 (hW.on hh.2))
  have hst : Wv.st d (0 + 1) l = l.length := by rw [Wv.st_succ, Wv.st_zero, Wv.cnt_whole d l h.fit]; omega
  have HK := Lib.hid (fun W (hW : WB w l.length A d c l W) => show Calls Tryz.prog 209 #[.slice A d c, .agg #[.int .i64 0, .int .i64 l.length], .int .i64 fr, .int .i64 tu, .int .i64 0] W fun e w' => ∃ v, e = .returned v ∧ OL w (up (Wv.kinds l (Wv.cl l.length fr) (Wv.cl l.length tu) (2 ^ d))) v w' ∧ WB w l.length A d c l w' from by
    have := kinds_all l (Wv.cl l.length fr) (Wv.cl l.length tu) h.small d 0 (by omega) (by rw [Nat.add_zero]; exact h.fit) 0 A c fr tu W (by omega) hc hW.wave.lv (Rep.top l d fr tu h.fit h.d1 f1 f2 t1 t2)
    rw [hst, Wv.ks_kinds] at this
    exact this.mono fun e w' ⟨v, h1, h2⟩ => ⟨v, h1, h2.since hW.old, hW.on h2.old⟩)
  clear h hst
  generalize up (Wv.kinds l (Wv.cl l.length fr) (Wv.cl l.length tu) (2 ^ d)) = L at *
  go_enter Tryz.func187, Tryz.ntmps187
  go_wp2_with fail
  with_reducible refine (HS.out _ hB).mono ?_
  rintro e w1 ⟨rfl, B1⟩
  clear hB HS
  go_upto_region 3 with fail
  have B2 := B1.on (Below.refl _ _).drew
  refine wp_region_takes 7 [0, 1, 2, 4, 5] [3, 6] (fun w' => w'.cell? ⟨w.heap.size, 0, none⟩ = some (.int .i64 l.length) ∧ w'.cell? ⟨w.heap.size, 1, none⟩ = some (.int .i64 d) ∧ w'.cell? ⟨w.heap.size, 2, none⟩ = some (.slice A d c)) (by kernel_rfl) (by kernel_rfl) ⟨B1.c0, B1.c1, B1.c2⟩ ?_
  refine wpTakes_cons (v := ?_) _ at0 rfl ?_ ?_ ?_
  rotate_left 1
  · rintro W ⟨x0, x1, x2⟩
    go_simp
    rfl
  · exact fun _ _ _ h => h
  simp only [Act.put, List.setIfInBounds_toArray, List.set_cons_zero, List.set_cons_succ]
  refine wpTakes_cons (v := ?_) _ at1 rfl ?_ ?_ ?_
  rotate_left 1
  · rintro W ⟨x0, x1, x2⟩
    go_simp
    rfl
  · exact fun _ _ _ h => h
  simp only [Act.put, List.setIfInBounds_toArray, List.set_cons_zero, List.set_cons_succ]
  refine wpTakes_cons (v := ?_) _ at2 rfl ?_ ?_ ?_
  rotate_left 1
  · rintro W ⟨x0, x1, x2⟩
    go_simp
    rfl
  · exact fun _ _ _ h => h
  simp only [Act.put, List.setIfInBounds_toArray, List.set_cons_zero, List.set_cons_succ]
  refine wpTakes_cons (v := ?_) _ at4 rfl ?_ ?_ ?_
  rotate_left 1
  · rintro W ⟨x0, x1, x2⟩
    go_simp
    rfl
  · exact fun _ _ _ h => h
  simp only [Act.put, List.setIfInBounds_toArray, List.set_cons_zero, List.set_cons_succ]
  refine wpTakes_cons (v := ?_) _ at5 rfl ?_ ?_ ?_
  rotate_left 1
  · rintro W ⟨x0, x1, x2⟩
    go_simp
    rfl
  · exact fun _ _ _ h => h
  simp only [Act.put, List.setIfInBounds_toArray, List.set_cons_zero, List.set_cons_succ]
  refine wpTakes_nil (wpCalls_cons _ at3 rfl fun K hK => ?_)
  go_simp
  go_at_call 196
  refine (HW.out _ B2).mono ?_
  rintro e w3 ⟨rfl, B3⟩
  refine hK.out _ _ ⟨B3.c0, B3.c1, B3.c2⟩ ?_
  clear hK
  refine wpCalls_cons _ at6 rfl fun K hK => ?_
  go_simp
  go_at_call 209
  refine (HK.out _ B3).mono ?_
  rintro e w4 ⟨v, rfl, O4, B4⟩
  refine hK.out _ _ ⟨B4.c0, B4.c1, B4.c2⟩ (wpCalls_nil ?_)
  clear hK
  simp only [List.drop_succ_cons, List.drop_zero]
  obtain ⟨A9, c9, rfl, _⟩ := own_slice O4.own
  go_wp2
  go_ret
  exact ⟨_, rfl, O4⟩

end Go.Proofs.YtoejenejleocdabGreatDoor
