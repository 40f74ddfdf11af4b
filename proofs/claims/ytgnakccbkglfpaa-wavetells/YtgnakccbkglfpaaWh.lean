/- At of a wave that Make has made. -/
import Derived.Test.YtgnakccbkglfpaaWg
import Derived.Test.YtgnakccbkglfpaaRg
namespace Go.Proofs.Ytgnakccbkglfpaa
open Go.RowKit
attribute [local irreducible] Bt.pop Bt.popF

/-- two cells of a group -/
def grpF (F T : Nat) : Nat → Value := fun j => if j = 0 then .int .i64 F else .int .i64 T
/-- a group in block G, bits in block K, both of the call's own -/
structure RB (w : World) (G K F T N : Nat) (A1 A2 : Option Addr) (c1 c2 mp : Nat) (bs : List Bool) (W : World) : Prop where
  grp : W.rowIs G 80 2 (grpF F T)
  b0 : W.cell? ⟨K, 0, none⟩ = some (.int .i64 N)
  b1 : W.cell? ⟨K, 1, none⟩ = some (.slice A1 mp c1)
  b2 : W.cell? ⟨K, 2, none⟩ = some (.slice A2 mp c2)
  made : IsBits W W.heap.size A1 A2 bs
  old : Below w.heap.size w W
  ltK : K < W.heap.size
  own : w.heap.size ≤ G
section
variable {w : World} {G K F T N : Nat} {A1 A2 : Option Addr} {c1 c2 mp : Nat} {bs : List Bool} {W W' : World}
theorem RB.on (h : RB w G K F T N A1 A2 c1 c2 mp bs W) (hb : Below W.heap.size W W') : RB w G K F T N A1 A2 c1 c2 mp bs W' :=
  ⟨h.grp.of_block (hb.block _ h.grp.lt), (hb.cell (p := ⟨K, 0, none⟩) h.ltK).trans h.b0, (hb.cell (p := ⟨K, 1, none⟩) h.ltK).trans h.b1, (hb.cell (p := ⟨K, 2, none⟩) h.ltK).trans h.b2, (h.made.below hb).more hb.size,
    h.old.trans (hb.mono h.old.size), Nat.lt_of_lt_of_le h.ltK hb.size, h.own⟩
theorem RB.drew (h : RB w G K F T N A1 A2 c1 c2 mp bs W) : RB w G K F T N A1 A2 c1 c2 mp bs W.drew := h.on (Below.refl _ _).drew
theorem RB.g0 (h : RB w G K F T N A1 A2 c1 c2 mp bs W) : W.cell? ⟨G, 0, none⟩ = some (.int .i64 F) := h.grp.cell (i := 0) (by omega)
theorem RB.g1 (h : RB w G K F T N A1 A2 c1 c2 mp bs W) : W.cell? ⟨G, 1, none⟩ = some (.int .i64 T) := h.grp.cell (i := 1) (by omega)
theorem RB.store (h : RB w G K F T N A1 A2 c1 c2 mp bs W) (F' T' : Nat) : ((W.setCell ⟨G, 0, none⟩ (.int .i64 F')).setCell ⟨G, 1, none⟩ (.int .i64 T')).rowIs G 80 2 (grpF F' T') ∧ Below w.heap.size w ((W.setCell ⟨G, 0, none⟩ (.int .i64 F')).setCell ⟨G, 1, none⟩ (.int .i64 T')) := by
  refine ⟨((h.grp.set 0 _).set 1 _).congr (fun i hi => ?_), (h.old.setCell h.own _).setCell h.own _⟩
  match i, hi with
  | 0, _ => rfl
  | 1, _ => rfl
end

/-- where the halves stand, of level k of d -/
theorem lvl_half (d k p : Nat) (l : List Nat) (A1 A2 : Option Addr) (c1 c2 : Nat) (one : Bool) (W : World) (hk : k < d) (hp : p < 2 ^ k) (hs : l.length ≤ 17592186044416) (hl : (Wv.lbits (d - 1 - k) (2 ^ k) l).length = l.length)
    (hI : IsBits W W.heap.size A1 A2 (Wv.lbits (d - 1 - k) (2 ^ k) l)) :
    Calls Try.prog 76 #[.agg #[.int .i64 (Wv.st (d - k) p l : Nat), .int .i64 (Wv.st (d - k) (p + 1) l : Nat)], .agg #[.int .i64 l.length, .slice A1 (l.length / 64 + 1) c1, .slice A2 (l.length / 64 + 1) c2], .bool one] W fun e w' =>
      e = .returned (.agg #[.int .i64 (Wv.st (d - (k + 1)) (Wv.kid p one) l : Nat), .int .i64 (Wv.st (d - (k + 1)) (Wv.kid p one + 1) l : Nat)]) ∧ Below W.heap.size W w' := by
  have h := half_lev (d - 1 - k) p (2 ^ k) l A1 A2 c1 c2 (l.length / 64 + 1) W one l.length hI rfl hl rfl hs hp
  rwa [show d - 1 - k + 1 = d - k from by omega, show d - 1 - k = d - (k + 1) from by omega] at h
theorem lvl_having (d k p i : Nat) (l : List Nat) (A1 A2 : Option Addr) (c1 c2 : Nat) (one : Bool) (T first : Int) (W : World) (hk : k < d) (hp : p < 2 ^ k) (hs : l.length ≤ 17592186044416) (hl : (Wv.lbits (d - 1 - k) (2 ^ k) l).length = l.length)
    (hI : IsBits W W.heap.size A1 A2 (Wv.lbits (d - 1 - k) (2 ^ k) l)) (hX : near l.length (IntKind.i64.wrap ((Wv.st (d - k) p l : Nat) + first)) = Wv.st (d - k) p l + Wv.cnt (d - k) p (l.take i)) :
    Calls Try.prog 77 #[.agg #[.int .i64 (Wv.st (d - k) p l : Nat), .int .i64 T], .agg #[.int .i64 l.length, .slice A1 (l.length / 64 + 1) c1, .slice A2 (l.length / 64 + 1) c2], .bool one, .int .i64 first] W fun e w' =>
      e = .returned (.int .i64 (Wv.cnt (d - (k + 1)) (Wv.kid p one) (l.take i) : Nat)) ∧ Below W.heap.size W w' := by
  have h := having_lev (d - 1 - k) p (2 ^ k) i l A1 A2 c1 c2 (l.length / 64 + 1) W one T first l.length hI rfl hl rfl hs hp (by rw [show d - 1 - k + 1 = d - k from by omega]; exact hX)
  rwa [show d - 1 - k + 1 = d - k from by omega, show d - 1 - k = d - (k + 1) from by omega] at h
/-- a place of a group is a place of the level -/
theorem lvl_in (d k p i : Nat) (l : List Nat) (hk : k < d) (hp : p < 2 ^ k) (hs : l.length ≤ 17592186044416) (hl : (Wv.lbits (d - 1 - k) (2 ^ k) l).length = l.length) :
    Wv.st (d - k) p l + Wv.cnt (d - k) p (l.take i) ≤ l.length ∧ IntKind.i64.wrap ((Wv.st (d - k) p l : Nat) + (Wv.cnt (d - k) p (l.take i) : Nat) : Int) = ((Wv.st (d - k) p l + Wv.cnt (d - k) p (l.take i) : Nat) : Int) ∧
    near l.length (IntKind.i64.wrap ((Wv.st (d - k) p l : Nat) + (Wv.cnt (d - k) p (l.take i) : Nat) : Int)) = Wv.st (d - k) p l + Wv.cnt (d - k) p (l.take i) := by
  have h1 := st_le (d - 1 - k) p (2 ^ k) l hp hl
  have h2 := Wv.cnt_take_le (d - k) p i l
  rw [show d - 1 - k + 1 = d - k from by omega] at h1
  have e : IntKind.i64.wrap ((Wv.st (d - k) p l : Nat) + (Wv.cnt (d - k) p (l.take i) : Nat) : Int) = ((Wv.st (d - k) p l + Wv.cnt (d - k) p (l.take i) : Nat) : Int) := by rw [w64 _ (by omega) (by omega)]; omega
  refine ⟨by omega, e, ?_⟩
  rw [e]
  exact near_of _ _ (by omega)

/-- what At answers -/
def atI (l : List Nat) (i : Int) : Int := if 0 ≤ i ∧ i < (l.length : Int) then ((l.getD i.toNat 0 : Nat) : Int) else -1

set_option maxHeartbeats 1000000 in
theorem at_out {w : World} {A : Option Addr} {d : Nat} {l : List Nat} (h : Wave w A d l) (c : Nat) (i : Int) (hi : i < 0 ∨ (l.length : Int) ≤ i) :
    Calls Try.prog 41 #[.agg #[.int .i64 l.length, .int .i64 d, .slice A d c], .int .i64 i] w fun e w' => e = .returned (.int .i64 (-1)) ∧ Below w.heap.size w w' := by
  have hb0 : Below w.heap.size w (w.alloc (.cells #[.int .i64 l.length, .int .i64 d, .slice A d c] 45)) := (Below.refl _ _).alloc (Nat.le_refl _) _
  have HS := Lib.hid (isShaped_wave (h.on hb0) c)
  clear h
  generalize l.length = N at *
  go_enter Try.func41, Try.ntmps41
  go_wp2_with fail
  with_reducible refine HS.out.mono ?_
  rintro e w1 ⟨rfl, hb1⟩
  have c2 : w1.cell? ⟨w.heap.size, 0, none⟩ = some (.int .i64 N) := (hb1.cell (p := ⟨w.heap.size, 0, none⟩) (by simp)).trans (by simp)
  have hb2 := hb0.trans (hb1.mono (by simp))
  clear HS hb0 hb1
  rcases hi with hi | hi
  · go_wp2
    go_ret
    exact ⟨rfl, hb2⟩
  · have h0 : ¬ i < 0 := by omega
    go_wp2
    go_ret
    exact ⟨rfl, hb2⟩

set_option maxHeartbeats 4000000 in
theorem at_in_ {w : World} {A : Option Addr} {d : Nat} {l : List Nat} (h : Wave w A d l) (c : Nat) (i : Nat) (hi : i < l.length) :
    Calls Try.prog 41 #[.agg #[.int .i64 l.length, .int .i64 d, .slice A d c], .int .i64 i] w fun e w' => e = .returned (.int .i64 (l.getD i 0 : Nat)) ∧ Below w.heap.size w w' := by
  have hb0 : Below w.heap.size w (w.alloc (.cells #[.int .i64 l.length, .int .i64 d, .slice A d c] 45)) := (Below.refl _ _).alloc (Nat.le_refl _) _
  have HS := Lib.hid (isShaped_wave (h.on hb0) c)
  have HW := Lib.hid (fun W => whole_any l.length d A d c W)
  have hsm := h.small
  have h16 := h.d16
  have hfit : l.getD i 0 < 2 ^ d := h.fit _ (by rw [List.getD_eq_getElem?_getD, List.getElem?_eq_getElem hi]; exact List.getElem_mem hi)
  have HL : Hid (∀ W, Below w.heap.size w W → ∀ k, k < d → ∃ b o A1 c1 A2 c2, A = some ⟨b, o, none⟩ ∧ b < w.heap.size ∧ W.cell? ⟨b, o + k * 3, none⟩ = some (.int .i64 l.length) ∧ W.cell? ⟨b, o + k * 3 + 1, none⟩ = some (.slice A1 (l.length / 64 + 1) c1) ∧ W.cell? ⟨b, o + k * 3 + 2, none⟩ = some (.slice A2 (l.length / 64 + 1) c2) ∧ IsBits W W.heap.size A1 A2 (Wv.lbits (d - 1 - k) (2 ^ k) l)) := Lib.hid fun W hW k hk => by
    obtain ⟨b, o, rfl, hlt, hc⟩ := h.level
    obtain ⟨⟨A1, c1, A2, c2, h1, h2, h3, h4⟩, hl⟩ := hc k hk
    rw [hl] at h1 h2 h3
    exact ⟨b, o, A1, c1, A2, c2, rfl, hlt, (hW.cell (p := ⟨b, o + k * 3, none⟩) hlt).trans h1, (hW.cell (p := ⟨b, o + k * 3 + 1, none⟩) hlt).trans h2, (hW.cell (p := ⟨b, o + k * 3 + 2, none⟩) hlt).trans h3, (h4.below hW).more hW.size⟩
  have Hlen := Lib.hid (fun k hk => (h.level.choose_spec.choose_spec.2.2 k hk).2)
  have Hst : Hid (Wv.st d 0 l = 0 ∧ Wv.st d (0 + 1) l = l.length ∧ Wv.cnt d 0 (l.take i) = i) := Lib.hid ⟨rfl, by rw [Wv.st_succ, Wv.st_zero, Wv.cnt_whole d l h.fit]; omega, by
    rw [Wv.cnt_whole d _ (fun n hn => h.fit n (List.mem_of_mem_take hn)), List.length_take]; omega⟩
  have hz0 : ¬ ((i : Int) < 0) := by omega
  have hz1 : ¬ ((l.length : Int) ≤ (i : Int)) := by omega
  have Hbit : Hid (∀ k, k < d → l.getD i 0 / 2 ^ (d - k) < 2 ^ k → (Wv.lbits (d - 1 - k) (2 ^ k) l).getD (Wv.st (d - k) (l.getD i 0 / 2 ^ (d - k)) l + Wv.cnt (d - k) (l.getD i 0 / 2 ^ (d - k)) (l.take i)) false = Wv.bit (d - 1 - k) (l.getD i 0)) := Lib.hid fun k hk hp => by
    have := Wv.bit_lev (d - 1 - k) (2 ^ k) i l hi (by rw [show d - 1 - k + 1 = d - k from by omega]; exact hp)
    rwa [show d - 1 - k + 1 = d - k from by omega] at this
  generalize l.getD i 0 = x at *
  clear h
  go_enter Try.func41, Try.ntmps41
  go_wp2_with fail
  with_reducible refine HS.out.mono ?_
  rintro e w1 ⟨rfl, hb1⟩
  have c0 : w1.cell? ⟨w.heap.size, 0, none⟩ = some (.int .i64 l.length) := (hb1.cell (p := ⟨w.heap.size, 0, none⟩) (by simp)).trans (by simp)
  have c1 : w1.cell? ⟨w.heap.size, 1, none⟩ = some (.int .i64 d) := (hb1.cell (p := ⟨w.heap.size, 1, none⟩) (by simp)).trans (by simp)
  have c2 : w1.cell? ⟨w.heap.size, 2, none⟩ = some (.slice A d c) := (hb1.cell (p := ⟨w.heap.size, 2, none⟩) (by simp)).trans (by simp)
  have hb2 := hb0.trans (hb1.mono (by simp))
  have hsz : w.heap.size < w1.heap.size := by have := hb1.size; simp at this; omega
  clear HS hb0 hb1
  go_wp2_with fail
  with_reducible refine (HW.out _).mono ?_
  rintro e w2 ⟨rfl, hb3⟩
  have d2 : w2.cell? ⟨w.heap.size, 2, none⟩ = some (.slice A d c) := (hb3.cell (p := ⟨w.heap.size, 2, none⟩) hsz).trans c2
  have hb4 := hb2.trans (hb3.mono hb2.size)
  have hsz2 : w.heap.size < w2.heap.size := Nat.lt_of_lt_of_le hsz hb3.size
  have d3 : ∀ o, (w2.alloc o).cell? ⟨w.heap.size, 2, none⟩ = some (.slice A d c) := fun o => by rw [World.cell?_alloc_lt _ _ _ hsz2]; exact d2
  clear HW c0 c1 c2 hb2 hb3
  have hfr : (w2.alloc (.cells #[.int .i64 0, .int .i64 l.length] 80)).rowIs w2.heap.size 80 2 (grpF 0 l.length) := World.rowIs_alloc _ _ _ _ (fun i hi => by
    match i, hi with
    | 0, _ => rfl
    | 1, _ => rfl)
  have hb5 : Below w.heap.size w (w2.alloc (.cells #[.int .i64 0, .int .i64 l.length] 80)) := hb4.alloc hb4.size _
  go_wp2
  go_loopw [5, 7, 30] (fun s5 s7 s W => ∃ k : Nat, k ≤ d ∧ s = .int .i64 k ∧ s5 = .int .i64 (x / 2 ^ (d - k) : Nat) ∧ s7 = .int .i64 (Wv.cnt (d - k) (x / 2 ^ (d - k)) (l.take i) : Nat) ∧ W.rowIs w2.heap.size 80 2 (grpF (Wv.st (d - k) (x / 2 ^ (d - k)) l) (Wv.st (d - k) (x / 2 ^ (d - k) + 1) l)) ∧ Below w.heap.size w W)
    (fun _ _ s _ => d - (intOf s).toNat)
  case atStart =>
    refine ⟨0, Nat.zero_le _, rfl, ?_, ?_, ?_, hb5⟩
    · rw [Nat.sub_zero, Nat.div_eq_of_lt hfit]; rfl
    · rw [Nat.sub_zero, Nat.div_eq_of_lt hfit, Hst.out.2.2]
    · rw [Nat.sub_zero, Nat.div_eq_of_lt hfit, Hst.out.1, Hst.out.2.1]; exact hfr
  case round =>
    obtain ⟨k, hk, rfl, rfl, rfl, hG, hbW⟩ := hrel
    clear hfr hb5 d2 d3
    by_cases hlt : k < d
    · obtain ⟨b, o, A1, c1, A2, c2, rfl, hbb, q1, q2, q3, hI⟩ := HL.out wr hbW k hlt
      have hlen := Hlen.out k hlt
      have hpk : x / 2 ^ (d - k) < 2 ^ k := Nat.div_lt_of_lt_mul (by rw [← Nat.pow_add, show d - k + k = d from by omega]; exact hfit)
      have hkid : Wv.kid (x / 2 ^ (d - k)) (Wv.bit (d - 1 - k) x) = x / 2 ^ (d - (k + 1)) := by
        have h1 := Wv.kid_bit (d - 1 - k) x
        rw [show d - 1 - k + 1 = d - k from by omega] at h1
        rw [h1, show d - (k + 1) = d - 1 - k from by omega]
      have hp4 : x / 2 ^ (d - k) < 4611686018427387903 := by
        have : 2 ^ k ≤ 2 ^ 16 := Nat.pow_le_pow_right (by omega) (by omega)
        omega
      obtain ⟨in1, in2, in3⟩ := lvl_in d k (x / 2 ^ (d - k)) i l hlt hpk hsm hlen
      have HA : Hid (∀ W, IsBits W W.heap.size A1 A2 (Wv.lbits (d - 1 - k) (2 ^ k) l) → Calls Try.prog 15 #[.agg #[.int .i64 l.length, .slice A1 (l.length / 64 + 1) c1, .slice A2 (l.length / 64 + 1) c2], .int .i64 ((Wv.st (d - k) (x / 2 ^ (d - k)) l : Nat) + (Wv.cnt (d - k) (x / 2 ^ (d - k)) (l.take i) : Nat) : Int)] W fun e w' => e = .returned (.bool (Wv.bit (d - 1 - k) x)) ∧ Below W.heap.size W w') := Lib.hid fun W hW => by
        have := at_made (Wv.lbits (d - 1 - k) (2 ^ k) l) ((Wv.st (d - k) (x / 2 ^ (d - k)) l + Wv.cnt (d - k) (x / 2 ^ (d - k)) (l.take i) : Nat) : Int) A1 (l.length / 64 + 1) c1 A2 (l.length / 64 + 1) c2 W hW (by rw [hlen]) (by omega)
        rw [Int.toNat_natCast, Hbit.out k hlt hpk, hlen, decide_eq_true (Int.natCast_nonneg _), Bool.true_and, Int.natCast_add] at this
        exact this
      have J0 : RB w w2.heap.size wr.heap.size (Wv.st (d - k) (x / 2 ^ (d - k)) l) (Wv.st (d - k) (x / 2 ^ (d - k) + 1) l) l.length A1 A2 c1 c2 (l.length / 64 + 1) (Wv.lbits (d - 1 - k) (2 ^ k) l) (wr.alloc (.cells #[.int .i64 l.length, .slice A1 (l.length / 64 + 1) c1, .slice A2 (l.length / 64 + 1) c2] 27)) :=
        ⟨hG.alloc _, by simp, by simp, by simp, hI.alloc _, hbW.alloc hbW.size _, by simp, hb4.size⟩
      have HH : Hid (∀ W, RB w w2.heap.size wr.heap.size (Wv.st (d - k) (x / 2 ^ (d - k)) l) (Wv.st (d - k) (x / 2 ^ (d - k) + 1) l) l.length A1 A2 c1 c2 (l.length / 64 + 1) (Wv.lbits (d - 1 - k) (2 ^ k) l) W → Calls Try.prog 76 #[.agg #[.int .i64 (Wv.st (d - k) (x / 2 ^ (d - k)) l : Nat), .int .i64 (Wv.st (d - k) (x / 2 ^ (d - k) + 1) l : Nat)], .agg #[.int .i64 l.length, .slice A1 (l.length / 64 + 1) c1, .slice A2 (l.length / 64 + 1) c2], .bool (Wv.bit (d - 1 - k) x)] W fun e w' =>
          e = .returned (.agg #[.int .i64 (Wv.st (d - (k + 1)) (x / 2 ^ (d - (k + 1))) l : Nat), .int .i64 (Wv.st (d - (k + 1)) (x / 2 ^ (d - (k + 1)) + 1) l : Nat)]) ∧ RB w w2.heap.size wr.heap.size (Wv.st (d - k) (x / 2 ^ (d - k)) l) (Wv.st (d - k) (x / 2 ^ (d - k) + 1) l) l.length A1 A2 c1 c2 (l.length / 64 + 1) (Wv.lbits (d - 1 - k) (2 ^ k) l) w') := Lib.hid fun W hW => by
        have := lvl_half d k (x / 2 ^ (d - k)) l A1 A2 c1 c2 (Wv.bit (d - 1 - k) x) W hlt hpk hsm hlen hW.made
        rw [hkid] at this
        exact this.mono fun e w' ⟨h1, h2⟩ => ⟨h1, hW.on h2⟩
      have HV : Hid (∀ W, RB w w2.heap.size wr.heap.size (Wv.st (d - k) (x / 2 ^ (d - k)) l) (Wv.st (d - k) (x / 2 ^ (d - k) + 1) l) l.length A1 A2 c1 c2 (l.length / 64 + 1) (Wv.lbits (d - 1 - k) (2 ^ k) l) W → Calls Try.prog 77 #[.agg #[.int .i64 (Wv.st (d - k) (x / 2 ^ (d - k)) l : Nat), .int .i64 (Wv.st (d - k) (x / 2 ^ (d - k) + 1) l : Nat)], .agg #[.int .i64 l.length, .slice A1 (l.length / 64 + 1) c1, .slice A2 (l.length / 64 + 1) c2], .bool (Wv.bit (d - 1 - k) x), .int .i64 (Wv.cnt (d - k) (x / 2 ^ (d - k)) (l.take i) : Nat)] W fun e w' =>
          e = .returned (.int .i64 (Wv.cnt (d - (k + 1)) (x / 2 ^ (d - (k + 1))) (l.take i) : Nat)) ∧ RB w w2.heap.size wr.heap.size (Wv.st (d - k) (x / 2 ^ (d - k)) l) (Wv.st (d - k) (x / 2 ^ (d - k) + 1) l) l.length A1 A2 c1 c2 (l.length / 64 + 1) (Wv.lbits (d - 1 - k) (2 ^ k) l) w') := Lib.hid fun W hW => by
        have := lvl_having d k (x / 2 ^ (d - k)) i l A1 A2 c1 c2 (Wv.bit (d - 1 - k) x) (Wv.st (d - k) (x / 2 ^ (d - k) + 1) l : Nat) (Wv.cnt (d - k) (x / 2 ^ (d - k)) (l.take i) : Nat) W hlt hpk hsm hlen hW.made in3
        rw [hkid] at this
        exact this.mono fun e w' ⟨h1, h2⟩ => ⟨h1, hW.on h2⟩
      have HG : Hid (∀ W, Calls Try.prog 78 #[.int .i64 (x / 2 ^ (d - k) : Nat), .bool (Wv.bit (d - 1 - k) x)] W fun e w' => e = .returned (.int .i64 (x / 2 ^ (d - (k + 1)) : Nat)) ∧ W = w') := Lib.hid fun W => by
        have := longer_any (x / 2 ^ (d - k)) (Wv.bit (d - 1 - k) x) W hp4
        rwa [hkid] at this
      have hlz : (k : Int) < (d : Int) := by omega
      have hG2 : w2.heap.size < wr.heap.size := hG.lt
      clear hkid hp4 hpk in2 in3 hlen HL Hlen Hbit Hst hI hG
      obtain ⟨F', hF'⟩ : ∃ F', Wv.st (d - (k + 1)) (x / 2 ^ (d - (k + 1))) l = F' := ⟨_, rfl⟩
      obtain ⟨T', hT'⟩ : ∃ T', Wv.st (d - (k + 1)) (x / 2 ^ (d - (k + 1)) + 1) l = T' := ⟨_, rfl⟩
      obtain ⟨a', ha'⟩ : ∃ a', Wv.cnt (d - (k + 1)) (x / 2 ^ (d - (k + 1))) (l.take i) = a' := ⟨_, rfl⟩
      obtain ⟨p', hp'⟩ : ∃ p', x / 2 ^ (d - (k + 1)) = p' := ⟨_, rfl⟩
      have HEq := Lib.hid (And.intro hF' (And.intro hT' (And.intro ha' hp')))
      rw [hF', hT'] at HH
      rw [ha'] at HV
      rw [hp'] at HG
      clear hF' hT' ha' hp'
      generalize l.length / 64 + 1 = mp at *
      generalize Wv.lbits (d - 1 - k) (2 ^ k) l = bs at *
      generalize Wv.bit (d - 1 - k) x = one at *
      generalize Wv.st (d - k) (x / 2 ^ (d - k)) l = F at *
      generalize Wv.st (d - k) (x / 2 ^ (d - k) + 1) l = T at *
      generalize Wv.cnt (d - k) (x / 2 ^ (d - k)) (l.take i) = a at *
      generalize x / 2 ^ (d - k) = p at *
      have j0 := J0.g0
      have j1 := J0.g1
      go_wp2_with fail
      with_reducible refine (HA.out _ J0.made).mono ?_
      rintro e w3 ⟨rfl, hb3⟩
      have J1 := J0.on hb3
      clear J0 HA hb3 q1 q2 q3 j0 j1
      have j0 := J1.g0
      have j1 := J1.g1
      have j2 := J1.b0
      have j3 := J1.b1
      have j4 := J1.b2
      have f0 := J1.grp.frozen 0
      have f1 := J1.grp.frozen 1
      have J2 := J1.drew
      have hne1 : ¬ w2.heap.size = wr.heap.size := by have := hG2; omega
      have hne2 : ¬ wr.heap.size = w2.heap.size := by have := hG2; omega
      go_upto_region 8 with fail
      go_cut [7, 30] from 30 to 52 (fun s s30 W => s = .int .i64 a' ∧ s30 = .int .i64 k ∧ W.rowIs w2.heap.size 80 2 (grpF F' T') ∧ Below w.heap.size w W)
      case first =>
        go_wp2_with fail
        refine wp_region_takes 9 [0, 1, 2, 4, 5, 6, 7] [3, 8] (fun w' => w'.cell? ⟨w2.heap.size, 0, none⟩ = some (.int .i64 F) ∧ w'.cell? ⟨w2.heap.size, 1, none⟩ = some (.int .i64 T) ∧ w'.cell? ⟨wr.heap.size, 0, none⟩ = some (.int .i64 l.length) ∧ w'.cell? ⟨wr.heap.size, 1, none⟩ = some (.slice A1 mp c1) ∧ w'.cell? ⟨wr.heap.size, 2, none⟩ = some (.slice A2 mp c2)) (by kernel_rfl) (by kernel_rfl) ⟨j0, j1, j2, j3, j4⟩ ?_
        refine wpTakes_cons (v := ?_) _ at0 rfl ?_ ?_ ?_
        rotate_left 1
        · rintro W ⟨x0, x1, x2, x3, x4⟩
          go_simp
          rfl
        · exact fun _ _ _ h => h
        simp only [Act.put, List.setIfInBounds_toArray, List.set_cons_zero, List.set_cons_succ]
        refine wpTakes_cons (v := ?_) _ at1 rfl ?_ ?_ ?_
        rotate_left 1
        · rintro W ⟨x0, x1, x2, x3, x4⟩
          go_simp
          rfl
        · exact fun _ _ _ h => h
        simp only [Act.put, List.setIfInBounds_toArray, List.set_cons_zero, List.set_cons_succ]
        refine wpTakes_cons (v := ?_) _ at2 rfl ?_ ?_ ?_
        rotate_left 1
        · rintro W ⟨x0, x1, x2, x3, x4⟩
          go_simp
          rfl
        · exact fun _ _ _ h => h
        simp only [Act.put, List.setIfInBounds_toArray, List.set_cons_zero, List.set_cons_succ]
        refine wpTakes_cons (v := ?_) _ at4 rfl ?_ ?_ ?_
        rotate_left 1
        · rintro W ⟨x0, x1, x2, x3, x4⟩
          go_simp
          rfl
        · exact fun _ _ _ h => h
        simp only [Act.put, List.setIfInBounds_toArray, List.set_cons_zero, List.set_cons_succ]
        refine wpTakes_cons (v := ?_) _ at5 rfl ?_ ?_ ?_
        rotate_left 1
        · rintro W ⟨x0, x1, x2, x3, x4⟩
          go_simp
          rfl
        · exact fun _ _ _ h => h
        simp only [Act.put, List.setIfInBounds_toArray, List.set_cons_zero, List.set_cons_succ]
        refine wpTakes_cons (v := ?_) _ at6 rfl ?_ ?_ ?_
        rotate_left 1
        · rintro W ⟨x0, x1, x2, x3, x4⟩
          go_simp
          rfl
        · exact fun _ _ _ h => h
        simp only [Act.put, List.setIfInBounds_toArray, List.set_cons_zero, List.set_cons_succ]
        refine wpTakes_cons (v := ?_) _ at7 rfl ?_ ?_ ?_
        rotate_left 1
        · rintro W ⟨x0, x1, x2, x3, x4⟩
          go_simp
          rfl
        · exact fun _ _ _ h => h
        simp only [Act.put, List.setIfInBounds_toArray, List.set_cons_zero, List.set_cons_succ]
        refine wpTakes_nil (wpCalls_cons _ at3 rfl fun K hK => ?_)
        go_simp
        go_at_call 76
        refine (HH.out _ J2).mono ?_
        rintro e w4 ⟨rfl, J3⟩
        refine hK.out _ _ ⟨J3.g0, J3.g1, J3.b0, J3.b1, J3.b2⟩ ?_
        clear hK
        refine wpCalls_cons _ at8 rfl fun K hK => ?_
        go_simp
        go_at_call 77
        refine (HV.out _ J3).mono ?_
        rintro e w5 ⟨rfl, J4⟩
        refine hK.out _ _ ⟨J4.g0, J4.g1, J4.b0, J4.b1, J4.b2⟩ (wpCalls_nil ?_)
        clear hK J3
        simp only [List.drop_succ_cons, List.drop_zero]
        have k0 := J4.g0
        have k1 := J4.g1
        have k5 := J4.grp.frozen 0
        have k6 := J4.grp.frozen 1
        have HST := Lib.hid (J4.store F' T')
        go_wp2_with fail
        go_meet
        exact ⟨rfl, rfl, HST.out.1, HST.out.2⟩
      case rest =>
        clear J1 J2 j0 j1 j2 j3 j4 f0 f1 HH HV
        obtain ⟨rfl, rfl, r1, r2⟩ := hcut
        go_wp2_with fail
        with_reducible refine (HG.out _).mono ?_
        rintro e w6 ⟨rfl, rfl⟩
        obtain ⟨e1, e2, e3, e4⟩ := HEq.out
        clear HG
        go_wp2
        go_roundw
        case rel => exact ⟨k + 1, by omega, by go_num, by rw [e4], by rw [e3], by rw [e1, e2]; exact r1, r2⟩
        case measure => simp [intOf]; omega
    · have hkd : k = d := by omega
      subst hkd
      have HE := Lib.hid (show x / 2 ^ (k - k) = x by rw [Nat.sub_self, Nat.pow_zero, Nat.div_one])
      rw [HE.out]
      go_wp2
      go_ret
      exact ⟨rfl, hbW⟩

end Go.Proofs.Ytgnakccbkglfpaa
