/- The leaves of package wave: mayBeDeep, hasOne, longer, whole; where a group's halves stand: having, half. -/
import Derived.Test.YtgnakccbkglfpaaBx
import Derived.Test.YtgnakccbkglfpaaWm
import Derived.Test.YtgnakccbkglfpaaMo
namespace Go.Proofs.Ytgnakccbkglfpaa
open Go.RowKit
attribute [local irreducible] Bt.pop Bt.popF

/-- may there be so many levels? -/
def deepOk (d : Int) : Bool := decide (1 ≤ d ∧ d ≤ 16)
theorem deepOk_yes (d : Int) (h1 : 1 ≤ d) (h2 : d ≤ 16) : deepOk d = true := by unfold deepOk; simp; omega
theorem deepOk_no (d : Int) (h : d < 1 ∨ 16 < d) : deepOk d = false := by unfold deepOk; simp; omega

theorem mayBeDeep_any (d : Int) (w : World) : Calls Try.prog 66 #[.int .i64 d] w fun e w' => e = .returned (.bool (deepOk d)) ∧ w = w' := by
  by_cases h1 : 1 ≤ d
  · have HH := Lib.hid (show deepOk d = decide (d ≤ 16) by unfold deepOk; simp [h1])
    go_enter Try.func66, Try.ntmps66
    go_wp2
    go_ret
    exact ⟨by rw [HH.out]; rfl, rfl⟩
  · have HH := Lib.hid (deepOk_no d (by omega))
    go_enter Try.func66, Try.ntmps66
    go_wp2
    go_ret
    exact ⟨by rw [HH.out]; rfl, rfl⟩

theorem and_one_i64 (a : Nat) (ha : a < 9223372036854775808) : bits .and .i64 (a : Int) 1 = ((a % 2 : Nat) : Int) := by
  have h1 : (BitVec.ofInt 64 (a : Int)).toNat = a := by
    rw [BitVec.ofInt_natCast, BitVec.toNat_ofNat]; exact Nat.mod_eq_of_lt (by omega)
  have h2 : (BitVec.ofInt 64 (1 : Int)).toNat = 1 := by decide
  show IntKind.i64.wrap ((BitVec.ofInt 64 (a : Int) &&& BitVec.ofInt 64 (1 : Int)).toNat : Int) = _
  rw [BitVec.toNat_and, h1, h2, Nat.and_one_is_mod, IntKind.wrap_i64]
  omega
theorem bit_i64 (n s : Nat) (hn : n < 9223372036854775808) : (bits .and .i64 ((n : Int) / 2 ^ s) 1 == 1) = Wv.bit s n := by
  have e : ((n : Int) / 2 ^ s) = ((n / 2 ^ s : Nat) : Int) := by simp
  have hle : n / 2 ^ s ≤ n := Nat.div_le_self _ _
  rw [e, and_one_i64 _ (by omega)]
  unfold Wv.bit
  rw [Bool.eq_iff_iff]; simp only [beq_iff_eq]; omega

set_option maxHeartbeats 400000 in
theorem hasOne_any (n d k : Nat) (w : World) (hn : n < 9223372036854775808) (hd : d ≤ 16) (hk : k < d) :
    Calls Try.prog 69 #[.int .i64 n, .int .i64 d, .int .i64 k] w fun e w' => e = .returned (.bool (Wv.bit (d - 1 - k) n)) ∧ w = w' := by
  have HB := Lib.hid (bit_i64 n (d - 1 - k) hn)
  have v1 : ((d : Int) - 1 - (k : Int)).toNat = d - 1 - k := by omega
  go_enter Try.func69, Try.ntmps69
  go_wp2
  go_ret
  refine ⟨ret_bool ?_, rfl⟩
  rw [← HB.out]

theorem longer_any (p : Nat) (one : Bool) (w : World) (hp : p < 4611686018427387903) :
    Calls Try.prog 78 #[.int .i64 p, .bool one] w fun e w' => e = .returned (.int .i64 (Wv.kid p one : Nat)) ∧ w = w' := by
  cases one
  · go_enter Try.func78, Try.ntmps78
    go_wp2
    go_ret
    exact ⟨ret_int (by simp [Wv.kid]), rfl⟩
  · go_enter Try.func78, Try.ntmps78
    go_wp2
    go_ret
    exact ⟨ret_int (by simp [Wv.kid]), rfl⟩

/-- two cells stored one behind the other -/
theorem set2 {w : World} {b : Nat} {t : TypeId} {f : Nat → Value} (h : w.rowIs b t 2 f) (v0 v1 : Value) :
    ((w.setCell ⟨b, 0, none⟩ v0).setCell ⟨b, 1, none⟩ v1).cell? ⟨b, 0, none⟩ = some v0 ∧ ((w.setCell ⟨b, 0, none⟩ v0).setCell ⟨b, 1, none⟩ v1).cell? ⟨b, 1, none⟩ = some v1 :=
  ⟨((h.set 0 v0).set 1 v1).cell (by omega), ((h.set 0 v0).set 1 v1).cell (by omega)⟩

set_option maxHeartbeats 400000 in
theorem whole_any (N D : Int) (A : Option Addr) (n c : Nat) (w : World) :
    Calls Try.prog 75 #[.agg #[.int .i64 N, .int .i64 D, .slice A n c]] w fun e w' => e = .returned (.agg #[.int .i64 0, .int .i64 N]) ∧ Below w.heap.size w w' := by
  go_enter Try.func75, Try.ntmps75
  go_wp2
  refine bodyPost_ret (v := .agg #[.int .i64 0, .int .i64 N]) (by simp [results, Try.results75, go_sem]) rfl ⟨rfl, ?_⟩
  exact ((Below.refl _ _).alloc (Nat.le_refl _) _).alloc (by simp) _

/-- a group and bits in two blocks of a function's own -/
structure HB (w : World) (F T : Int) (bs : List Bool) (A1 A2 : Option Addr) (c1 c2 m : Nat) (W : World) : Prop where
  g0 : W.cell? ⟨w.heap.size, 0, none⟩ = some (.int .i64 F)
  g1 : W.cell? ⟨w.heap.size, 1, none⟩ = some (.int .i64 T)
  b0 : W.cell? ⟨w.heap.size + 1, 0, none⟩ = some (.int .i64 bs.length)
  b1 : W.cell? ⟨w.heap.size + 1, 1, none⟩ = some (.slice A1 m c1)
  b2 : W.cell? ⟨w.heap.size + 1, 2, none⟩ = some (.slice A2 m c2)
  made : IsBits W W.heap.size A1 A2 bs
  parts : m = bs.length / 64 + 1
  small : bs.length ≤ 9223372036854775807
  old : Below w.heap.size w W
  big : w.heap.size + 2 ≤ W.heap.size
section
variable {w : World} {F T : Int} {bs : List Bool} {A1 A2 : Option Addr} {c1 c2 m : Nat} {W W' : World}
theorem HB.on (h : HB w F T bs A1 A2 c1 c2 m W) (hb : Below W.heap.size W W') : HB w F T bs A1 A2 c1 c2 m W' := by
  have := h.big
  exact ⟨(hb.cell (p := ⟨w.heap.size, 0, none⟩) (by simp; omega)).trans h.g0, (hb.cell (p := ⟨w.heap.size, 1, none⟩) (by simp; omega)).trans h.g1,
    (hb.cell (p := ⟨w.heap.size + 1, 0, none⟩) (by simp; omega)).trans h.b0, (hb.cell (p := ⟨w.heap.size + 1, 1, none⟩) (by simp; omega)).trans h.b1, (hb.cell (p := ⟨w.heap.size + 1, 2, none⟩) (by simp; omega)).trans h.b2,
    (h.made.below hb).more hb.size, h.parts, h.small, h.old.trans (hb.mono h.old.size), Nat.le_trans h.big hb.size⟩
theorem HB.drew (h : HB w F T bs A1 A2 c1 c2 m W) : HB w F T bs A1 A2 c1 c2 m W.drew := h.on (Below.refl _ _).drew
theorem HB.start (hI : IsBits w w.heap.size A1 A2 bs) (hm : m = bs.length / 64 + 1) (hs : bs.length ≤ 9223372036854775807) (t t' : TypeId) :
    HB w F T bs A1 A2 c1 c2 m ((w.alloc (.cells #[.int .i64 F, .int .i64 T] t)).alloc (.cells #[.int .i64 bs.length, .slice A1 m c1, .slice A2 m c2] t')) :=
  ⟨by simp, by simp, by simp, by simp, by simp, (hI.alloc _).alloc _, hm, hs, ((Below.refl _ _).alloc (Nat.le_refl _) _).alloc (by simp) _, by simp⟩
theorem HB.ones (h : HB w F T bs A1 A2 c1 c2 m W) (i : Int) : Calls Try.prog 16 #[.agg #[.int .i64 bs.length, .slice A1 m c1, .slice A2 m c2], .int .i64 i] W fun e w' => e = .returned (.int .i64 (oI bs i)) ∧ HB w F T bs A1 A2 c1 c2 m w' :=
  (ones_made bs i A1 m c1 A2 m c2 W h.made h.parts h.parts h.small).mono fun _ _ ⟨he, hb⟩ => ⟨he, h.on hb⟩
theorem HB.noughts (h : HB w F T bs A1 A2 c1 c2 m W) (i : Int) : Calls Try.prog 18 #[.agg #[.int .i64 bs.length, .slice A1 m c1, .slice A2 m c2], .int .i64 i] W fun e w' => e = .returned (.int .i64 (nI bs i)) ∧ HB w F T bs A1 A2 c1 c2 m w' :=
  (noughts_made bs i A1 m c1 A2 m c2 W h.made h.parts h.parts h.small).mono fun _ _ ⟨he, hb⟩ => ⟨he, h.on hb⟩
end

attribute [local irreducible] oI nI

set_option maxHeartbeats 1000000 in
theorem having_one (F T first X R : Int) (bs : List Bool) (A1 A2 : Option Addr) (c1 c2 m : Nat) (w : World) (hI : IsBits w w.heap.size A1 A2 bs) (hm : m = bs.length / 64 + 1) (hs : bs.length ≤ 9223372036854775807)
    (hX : IntKind.i64.wrap (F + first) = X) (hR : IntKind.i64.wrap (oI bs X - oI bs F) = R) :
    Calls Try.prog 77 #[.agg #[.int .i64 F, .int .i64 T], .agg #[.int .i64 bs.length, .slice A1 m c1, .slice A2 m c2], .bool true, .int .i64 first] w fun e w' => e = .returned (.int .i64 R) ∧ Below w.heap.size w w' := by
  have J0 : HB w F T bs A1 A2 c1 c2 m _ := HB.start hI hm hs 80 27
  have HO := Lib.hid (fun W i (h : HB w F T bs A1 A2 c1 c2 m W) => h.ones i)
  clear hI hm hs
  go_enter Try.func77, Try.ntmps77
  go_wp2_with fail
  generalize hW : ((w.alloc _).alloc _) = W1 at J0 ⊢
  clear hW
  obtain ⟨j0, j1, j2, j3, j4⟩ : _ ∧ _ ∧ _ ∧ _ ∧ _ := ⟨J0.g0, J0.g1, J0.b0, J0.b1, J0.b2⟩
  have J1 := J0.drew
  go_region_held3 (fun w' => w'.cell? ⟨w.heap.size, 0, none⟩ = some (.int .i64 F) ∧ w'.cell? ⟨w.heap.size + 1, 0, none⟩ = some (.int .i64 bs.length) ∧ w'.cell? ⟨w.heap.size + 1, 1, none⟩ = some (.slice A1 m c1) ∧ w'.cell? ⟨w.heap.size + 1, 2, none⟩ = some (.slice A2 m c2)) (first | exact ⟨j0, j2, j3, j4⟩ | go_keep)
    (first
      | (go_at_call 16; refine (HO.out _ _ ?_).mono ?_; (first | assumption | exact J1); rintro e w3 ⟨rfl, J3⟩; have k0 := J3.g0; have k2 := J3.b0; have k3 := J3.b1; have k4 := J3.b2))
  have hold := J3.old
  go_wp2
  go_ret
  exact ⟨rfl, hold⟩

set_option maxHeartbeats 1000000 in
theorem having_nought (F T first X R : Int) (bs : List Bool) (A1 A2 : Option Addr) (c1 c2 m : Nat) (w : World) (hI : IsBits w w.heap.size A1 A2 bs) (hm : m = bs.length / 64 + 1) (hs : bs.length ≤ 9223372036854775807)
    (hX : IntKind.i64.wrap (F + first) = X) (hR : IntKind.i64.wrap (nI bs X - nI bs F) = R) :
    Calls Try.prog 77 #[.agg #[.int .i64 F, .int .i64 T], .agg #[.int .i64 bs.length, .slice A1 m c1, .slice A2 m c2], .bool false, .int .i64 first] w fun e w' => e = .returned (.int .i64 R) ∧ Below w.heap.size w w' := by
  have J0 : HB w F T bs A1 A2 c1 c2 m _ := HB.start hI hm hs 80 27
  have HO := Lib.hid (fun W i (h : HB w F T bs A1 A2 c1 c2 m W) => h.noughts i)
  clear hI hm hs
  go_enter Try.func77, Try.ntmps77
  go_wp2_with fail
  generalize hW : ((w.alloc _).alloc _) = W1 at J0 ⊢
  clear hW
  obtain ⟨j0, j1, j2, j3, j4⟩ : _ ∧ _ ∧ _ ∧ _ ∧ _ := ⟨J0.g0, J0.g1, J0.b0, J0.b1, J0.b2⟩
  have J1 := J0.drew
  go_region_held3 (fun w' => w'.cell? ⟨w.heap.size, 0, none⟩ = some (.int .i64 F) ∧ w'.cell? ⟨w.heap.size + 1, 0, none⟩ = some (.int .i64 bs.length) ∧ w'.cell? ⟨w.heap.size + 1, 1, none⟩ = some (.slice A1 m c1) ∧ w'.cell? ⟨w.heap.size + 1, 2, none⟩ = some (.slice A2 m c2)) (first | exact ⟨j0, j2, j3, j4⟩ | go_keep)
    (first
      | (go_at_call 18; refine (HO.out _ _ ?_).mono ?_; (first | assumption | exact J1); rintro e w3 ⟨rfl, J3⟩; have k0 := J3.g0; have k2 := J3.b0; have k3 := J3.b1; have k4 := J3.b2))
  have hold := J3.old
  go_wp2
  go_ret
  exact ⟨rfl, hold⟩

/-- the same three blocks: a group, bits, a group that is to be handed back -/
structure HD (w : World) (F T : Int) (bs : List Bool) (A1 A2 : Option Addr) (c1 c2 m : Nat) (W : World) : Prop where
  hb : HB w F T bs A1 A2 c1 c2 m W
  res : W.rowIs (w.heap.size + 2) 80 2 (fun _ => .int .i64 0)
theorem HD.on {w : World} {F T : Int} {bs : List Bool} {A1 A2 : Option Addr} {c1 c2 m : Nat} {W W' : World} (h : HD w F T bs A1 A2 c1 c2 m W) (hb : Below W.heap.size W W') : HD w F T bs A1 A2 c1 c2 m W' :=
  ⟨h.hb.on hb, h.res.of_block (hb.block _ h.res.lt)⟩
theorem HD.drew {w : World} {F T : Int} {bs : List Bool} {A1 A2 : Option Addr} {c1 c2 m : Nat} {W : World} (h : HD w F T bs A1 A2 c1 c2 m W) : HD w F T bs A1 A2 c1 c2 m W.drew := h.on (Below.refl _ _).drew

set_option maxHeartbeats 1000000 in
theorem half_any (F T X R M : Int) (one : Bool) (bs : List Bool) (A1 A2 : Option Addr) (c1 c2 m : Nat) (w : World) (hI : IsBits w w.heap.size A1 A2 bs) (hm : m = bs.length / 64 + 1) (hs : bs.length ≤ 9223372036854775807)
    (hX : IntKind.i64.wrap (F + IntKind.i64.wrap (T - F)) = X) (hR : IntKind.i64.wrap (nI bs X - nI bs F) = R) (hM : IntKind.i64.wrap (F + R) = M) :
    Calls Try.prog 76 #[.agg #[.int .i64 F, .int .i64 T], .agg #[.int .i64 bs.length, .slice A1 m c1, .slice A2 m c2], .bool one] w fun e w' => e = .returned (.agg #[.int .i64 (if one = true then M else F), .int .i64 (if one = true then T else M)]) ∧ Below w.heap.size w w' := by
  have JB : HB w F T bs A1 A2 c1 c2 m _ := HB.start hI hm hs 80 27
  have J0 : HD w F T bs A1 A2 c1 c2 m _ := ⟨JB.on ((Below.refl _ _).alloc (Nat.le_refl _) (.cells #[.int .i64 0, .int .i64 0] 80)), by
    have h := World.rowIs_alloc ((w.alloc (.cells #[.int .i64 F, .int .i64 T] 80)).alloc (.cells #[.int .i64 bs.length, .slice A1 m c1, .slice A2 m c2] 27)) #[.int .i64 0, .int .i64 0] 80 (fun _ => .int .i64 0) (fun i hi => by
      match i, hi with
      | 0, _ => rfl
      | 1, _ => rfl)
    rw [World.size_alloc, World.size_alloc] at h
    exact h⟩
  clear JB
  have HO := Lib.hid (fun W (h : HD w F T bs A1 A2 c1 c2 m W) => (having_nought F T (IntKind.i64.wrap (T - F)) X R bs A1 A2 c1 c2 m W h.hb.made hm hs hX hR).mono (fun e w' (hh : e = .returned (.int .i64 R) ∧ Below W.heap.size W w') => (⟨hh.1, h.on hh.2⟩ : e = .returned (.int .i64 R) ∧ HD w F T bs A1 A2 c1 c2 m w')))
  have HM := Lib.hid hM
  clear hI hm hs hX hR hM
  go_enter Try.func76, Try.ntmps76
  go_wp2_with fail
  generalize hW : (((w.alloc _).alloc _).alloc _) = W1 at J0 ⊢
  clear hW
  obtain ⟨j0, j1, j2, j3, j4⟩ : _ ∧ _ ∧ _ ∧ _ ∧ _ := ⟨J0.hb.g0, J0.hb.g1, J0.hb.b0, J0.hb.b1, J0.hb.b2⟩
  have J1 := J0.drew
  go_region_held3 (fun w' => w'.cell? ⟨w.heap.size, 0, none⟩ = some (.int .i64 F) ∧ w'.cell? ⟨w.heap.size, 1, none⟩ = some (.int .i64 T) ∧ w'.cell? ⟨w.heap.size + 1, 0, none⟩ = some (.int .i64 bs.length) ∧ w'.cell? ⟨w.heap.size + 1, 1, none⟩ = some (.slice A1 m c1) ∧ w'.cell? ⟨w.heap.size + 1, 2, none⟩ = some (.slice A2 m c2)) (first | exact ⟨j0, j1, j2, j3, j4⟩ | go_keep)
    (first
      | (go_at_call 77; refine (HO.out _ ?_).mono ?_; (first | assumption | exact J1); rintro e w3 ⟨rfl, J3⟩; have k0 := J3.hb.g0; have k1 := J3.hb.g1; have k2 := J3.hb.b0; have k3 := J3.hb.b1; have k4 := J3.hb.b2))
  rw [HM.out]
  have hold := J3.hb.old
  have r0 : w3.cell? ⟨w.heap.size + 2, 0, none⟩ = some (.int .i64 0) := J3.res.cell (by omega)
  have r1 : w3.cell? ⟨w.heap.size + 2, 1, none⟩ = some (.int .i64 0) := J3.res.cell (by omega)
  have f0 := J3.res.frozen 0
  have f1 := J3.res.frozen 1
  have HS := Lib.hid (fun v0 v1 => set2 J3.res v0 v1)
  have HQ : Hid (∀ v0 v1, Below w.heap.size w ((w3.setCell ⟨w.heap.size + 2, 0, none⟩ v0).setCell ⟨w.heap.size + 2, 1, none⟩ v1)) := Lib.hid fun v0 v1 => (hold.setCell (by show w.heap.size ≤ w.heap.size + 2; omega) _).setCell (by show w.heap.size ≤ w.heap.size + 2; omega) _
  cases one
  · go_wp2
    obtain ⟨s0, s1⟩ := HS.out (.int .i64 F) (.int .i64 M)
    refine bodyPost_ret (v := .agg #[.int .i64 F, .int .i64 M]) (by simp [results, Try.results76, go_sem, s0, s1]) rfl ⟨rfl, HQ.out _ _⟩
  · go_wp2
    obtain ⟨s0, s1⟩ := HS.out (.int .i64 M) (.int .i64 T)
    refine bodyPost_ret (v := .agg #[.int .i64 M, .int .i64 T]) (by simp [results, Try.results76, go_sem, s0, s1]) rfl ⟨rfl, HQ.out _ _⟩

end Go.Proofs.Ytgnakccbkglfpaa
