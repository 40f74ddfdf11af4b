/- Count of a wave that Make has made. -/
import Derived.Test.YtgnakccbkglfpaaWh
namespace Go.Proofs.Ytgnakccbkglfpaa
open Go.RowKit
attribute [local irreducible] Bt.pop Bt.popF

theorem at_wave {w : World} {A : Option Addr} {d : Nat} {l : List Nat} (h : Wave w A d l) (c : Nat) (i : Int) :
    Calls Try.prog 41 #[.agg #[.int .i64 l.length, .int .i64 d, .slice A d c], .int .i64 i] w fun e w' => e = .returned (.int .i64 (atI l i)) ∧ Below w.heap.size w w' := by
  unfold atI
  by_cases hi : 0 ≤ i ∧ i < (l.length : Int)
  · rw [if_pos hi]
    obtain ⟨k, rfl⟩ := Int.eq_ofNat_of_zero_le hi.1
    rw [Int.toNat_natCast]
    exact at_in_ h c k (by omega)
  · rw [if_neg hi]
    exact at_out h c i (by omega)

theorem wrap_pow (d : Nat) (h : d ≤ 16) : wrap64 (2 ^ d) = (2 : Int) ^ d := by
  have h1 : (2 : Nat) ^ d ≤ 2 ^ 16 := Nat.pow_le_pow_right (by omega) h
  have h2 : (2 : Int) ^ d = ((2 ^ d : Nat) : Int) := by simp
  rw [h2]
  generalize (2 : Nat) ^ d = m at h1
  exact wrap64_in _ (by omega) (by omega)
theorem pow_pos2 (d : Nat) : (0 : Int) < 2 ^ d := by
  rw [show (2 : Int) ^ d = ((2 ^ d : Nat) : Int) from by simp]
  have := Nat.two_pow_pos d
  omega

/-- what Count answers -/
def countI (l : List Nat) (n i : Int) : Int := if 0 ≤ n then ((l.take (Wv.cl l.length i)).count n.toNat : Nat) else 0

set_option maxHeartbeats 1000000 in
theorem count_out {w : World} {A : Option Addr} {d : Nat} {l : List Nat} (h : Wave w A d l) (c : Nat) (n i : Int) (hi : n < 0 ∨ (2 ^ d : Int) ≤ n) :
    Calls Try.prog 42 #[.agg #[.int .i64 l.length, .int .i64 d, .slice A d c], .int .i64 n, .int .i64 i] w fun e w' => e = .returned (.int .i64 0) ∧ Below w.heap.size w w' := by
  have hb0 : Below w.heap.size w (w.alloc (.cells #[.int .i64 l.length, .int .i64 d, .slice A d c] 45)) := (Below.refl _ _).alloc (Nat.le_refl _) _
  have HS := Lib.hid (isShaped_wave (h.on hb0) c)
  have h16 := h.d16
  have hp2 := wrap_pow d h16
  have hpos := pow_pos2 d
  clear h
  generalize l.length = N at *
  go_enter Try.func42, Try.ntmps42
  go_wp2_with fail
  with_reducible refine HS.out.mono ?_
  rintro e w1 ⟨rfl, hb1⟩
  have c2 : w1.cell? ⟨w.heap.size, 1, none⟩ = some (.int .i64 d) := (hb1.cell (p := ⟨w.heap.size, 1, none⟩) (by simp)).trans (by simp)
  have hb2 := hb0.trans (hb1.mono (by simp))
  clear HS hb0 hb1
  rcases hi with hi | hi
  · go_wp2
    go_ret
    exact ⟨rfl, hb2⟩
  · have h0 : ¬ n < 0 := by
      generalize (2 : Int) ^ d = D at *
      omega
    have h1 : wrap64 (2 ^ d) ≤ n := by rw [hp2]; exact hi
    clear hp2 hpos hi
    go_wp2
    go_ret
    exact ⟨rfl, hb2⟩

set_option maxHeartbeats 4000000 in
theorem count_in {w : World} {A : Option Addr} {d : Nat} {l : List Nat} (h : Wave w A d l) (c : Nat) (n : Nat) (i : Int) (hn : n < 2 ^ d) (hi1 : -9223372036854775808 ≤ i) (hi2 : i ≤ 9223372036854775807) :
    Calls Try.prog 42 #[.agg #[.int .i64 l.length, .int .i64 d, .slice A d c], .int .i64 n, .int .i64 i] w fun e w' => e = .returned (.int .i64 ((l.take (Wv.cl l.length i)).count n : Nat)) ∧ Below w.heap.size w w' := by
  obtain ⟨wB, hwB⟩ : ∃ wB, wB = w.alloc (.cells #[.int .i64 l.length, .int .i64 d, .slice A d c] 45) := ⟨_, rfl⟩
  have hb0 : Below w.heap.size w wB := by rw [hwB]; exact (Below.refl _ _).alloc (Nat.le_refl _) _
  have hszB : wB.heap.size = w.heap.size + 1 := by rw [hwB]; simp
  have b0 : wB.cell? ⟨w.heap.size, 0, none⟩ = some (.int .i64 l.length) := by rw [hwB]; simp
  have b1 : wB.cell? ⟨w.heap.size, 1, none⟩ = some (.int .i64 d) := by rw [hwB]; simp
  have b2 : wB.cell? ⟨w.heap.size, 2, none⟩ = some (.slice A d c) := by rw [hwB]; simp
  have h := h.on hb0
  have HS := Lib.hid (isShaped_wave h c)
  have HW := Lib.hid (fun W => whole_any l.length d A d c W)
  have hsm := h.small
  have h16 := h.d16
  have h1d := h.d1
  have HL : Hid (∀ W, Below wB.heap.size wB W → ∀ k, k < d → ∃ b o A1 c1 A2 c2, A = some ⟨b, o, none⟩ ∧ b < wB.heap.size ∧ W.cell? ⟨b, o + k * 3, none⟩ = some (.int .i64 l.length) ∧ W.cell? ⟨b, o + k * 3 + 1, none⟩ = some (.slice A1 (l.length / 64 + 1) c1) ∧ W.cell? ⟨b, o + k * 3 + 2, none⟩ = some (.slice A2 (l.length / 64 + 1) c2) ∧ IsBits W W.heap.size A1 A2 (Wv.lbits (d - 1 - k) (2 ^ k) l)) := Lib.hid fun W hW k hk => by
    obtain ⟨b, o, rfl, hlt, hc⟩ := h.level
    obtain ⟨⟨A1, c1, A2, c2, h1, h2, h3, h4⟩, hl⟩ := hc k hk
    rw [hl] at h1 h2 h3
    exact ⟨b, o, A1, c1, A2, c2, rfl, hlt, (hW.cell (p := ⟨b, o + k * 3, none⟩) hlt).trans h1, (hW.cell (p := ⟨b, o + k * 3 + 1, none⟩) hlt).trans h2, (hW.cell (p := ⟨b, o + k * 3 + 2, none⟩) hlt).trans h3, (h4.below hW).more hW.size⟩
  have Hfit := Lib.hid h.fit
  have Hlen := Lib.hid (fun k hk => (h.level.choose_spec.choose_spec.2.2 k hk).2)
  have hcl := Wv.cl_le l.length i
  have Hst : Hid (Wv.st d 0 l = 0 ∧ Wv.st d (0 + 1) l = l.length ∧ near l.length (IntKind.i64.wrap ((0 : Nat) + i)) = 0 + Wv.cnt d 0 (l.take (Wv.cl l.length i))) := Lib.hid ⟨rfl, by rw [Wv.st_succ, Wv.st_zero, Wv.cnt_whole d l h.fit]; omega, by
    rw [Wv.cnt_whole d _ (fun n hn => h.fit n (List.mem_of_mem_take hn)), List.length_take, w64 _ (by omega) (by omega)]
    unfold near Wv.cl; omega⟩
  have Hend : Hid (Wv.cnt (d - d) (n / 2 ^ (d - d)) (l.take (Wv.cl l.length i)) = (l.take (Wv.cl l.length i)).count n) := Lib.hid (by rw [Nat.sub_self, Nat.pow_zero, Nat.div_one, Wv.cnt_leaf])
  have hp2 := wrap_pow d h16
  have hpos := pow_pos2 d
  have hz0 : ¬ ((n : Int) < 0) := by omega
  have hz1 : ¬ (wrap64 ((2 : Int) ^ d) ≤ (n : Int)) := by
    rw [hp2, show (2 : Int) ^ d = ((2 ^ d : Nat) : Int) from by simp]
    omega
  clear hp2 hpos
  have hn16 : n < 9223372036854775808 := by
    have h1 : (2 : Nat) ^ d ≤ 2 ^ 16 := Nat.pow_le_pow_right (by omega) h16
    omega
  generalize hJ : l.take (Wv.cl l.length i) = lj at *
  generalize Wv.cl l.length i = j at *
  clear h hcl
  go_enter Try.func42, Try.ntmps42
  go_wp2_with fail
  rw [← hwB]
  clear hwB
  with_reducible refine HS.out.mono ?_
  rintro e w1 ⟨rfl, hb1⟩
  have c0 : w1.cell? ⟨w.heap.size, 0, none⟩ = some (.int .i64 l.length) := (hb1.cell (p := ⟨w.heap.size, 0, none⟩) (by simp; omega)).trans b0
  have c1 : w1.cell? ⟨w.heap.size, 1, none⟩ = some (.int .i64 d) := (hb1.cell (p := ⟨w.heap.size, 1, none⟩) (by simp; omega)).trans b1
  have c2 : w1.cell? ⟨w.heap.size, 2, none⟩ = some (.slice A d c) := (hb1.cell (p := ⟨w.heap.size, 2, none⟩) (by simp; omega)).trans b2
  clear HS
  go_wp2_with fail
  with_reducible refine (HW.out _).mono ?_
  rintro e w2 ⟨rfl, hb3⟩
  have hb4 : Below wB.heap.size wB w2 := hb1.trans (hb3.mono hb1.size)
  have HB1 : Hid (∀ W, Below wB.heap.size wB W → W.cell? ⟨w.heap.size, 1, none⟩ = some (.int .i64 d) ∧ W.cell? ⟨w.heap.size, 2, none⟩ = some (.slice A d c)) := Lib.hid fun W hW => ⟨(hW.cell (p := ⟨w.heap.size, 1, none⟩) (by simp; omega)).trans b1, (hW.cell (p := ⟨w.heap.size, 2, none⟩) (by simp; omega)).trans b2⟩
  have hb5 : Below wB.heap.size wB (w2.alloc (.cells #[.int .i64 0, .int .i64 l.length] 80)) := hb4.alloc hb4.size _
  have d3 := (HB1.out _ hb5).2
  have hfr : (w2.alloc (.cells #[.int .i64 0, .int .i64 l.length] 80)).rowIs w2.heap.size 80 2 (grpF 0 l.length) := World.rowIs_alloc _ _ _ _ (fun i hi => by
    match i, hi with
    | 0, _ => rfl
    | 1, _ => rfl)
  clear HW c0 c1 c2 hb1 hb3 b0 b1 b2 hz0 hz1
  go_wp2
  go_loopw [8, 32] (fun s8 s W => ∃ (k : Nat) (a : Int), k ≤ d ∧ s = .int .i64 k ∧ s8 = .int .i64 a ∧ Hid (near l.length (IntKind.i64.wrap ((Wv.st (d - k) (n / 2 ^ (d - k)) l : Nat) + a)) = Wv.st (d - k) (n / 2 ^ (d - k)) l + Wv.cnt (d - k) (n / 2 ^ (d - k)) lj) ∧ Hid (k = d → a = (Wv.cnt (d - k) (n / 2 ^ (d - k)) lj : Nat)) ∧ W.rowIs w2.heap.size 80 2 (grpF (Wv.st (d - k) (n / 2 ^ (d - k)) l) (Wv.st (d - k) (n / 2 ^ (d - k) + 1) l)) ∧ Below wB.heap.size wB W)
    (fun _ s _ => d - (intOf s).toNat)
  case atStart =>
    refine ⟨0, i, Nat.zero_le _, rfl, rfl, (?_ : near l.length (IntKind.i64.wrap ((Wv.st (d - 0) (n / 2 ^ (d - 0)) l : Nat) + i)) = Wv.st (d - 0) (n / 2 ^ (d - 0)) l + Wv.cnt (d - 0) (n / 2 ^ (d - 0)) lj), (fun h => absurd h (by omega) : 0 = d → i = (Wv.cnt (d - 0) (n / 2 ^ (d - 0)) lj : Nat)), ?_, hb5⟩
    · rw [Nat.sub_zero, Nat.div_eq_of_lt hn, Hst.out.1]; exact Hst.out.2.2
    · rw [Nat.sub_zero, Nat.div_eq_of_lt hn, Hst.out.1, Hst.out.2.1]; exact hfr
  case round =>
    obtain ⟨k, a, hk, rfl, rfl, IN, IE, hG, hbW⟩ := hrel
    clear hfr hb5 d3
    by_cases hlt : k < d
    · obtain ⟨b, o, A1, c1, A2, c2, rfl, hbb, q1, q2, q3, hI⟩ := HL.out wr hbW k hlt
      have hlen := Hlen.out k hlt
      have hpk : n / 2 ^ (d - k) < 2 ^ k := Nat.div_lt_of_lt_mul (by rw [← Nat.pow_add, show d - k + k = d from by omega]; exact hn)
      have hkid : Wv.kid (n / 2 ^ (d - k)) (Wv.bit (d - 1 - k) n) = n / 2 ^ (d - (k + 1)) := by
        have h1 := Wv.kid_bit (d - 1 - k) n
        rw [show d - 1 - k + 1 = d - k from by omega] at h1
        rw [h1, show d - (k + 1) = d - 1 - k from by omega]
      have HO := Lib.hid (fun W => hasOne_any n d k W hn16 h16 hlt)
      have J0 : RB wB w2.heap.size wr.heap.size (Wv.st (d - k) (n / 2 ^ (d - k)) l) (Wv.st (d - k) (n / 2 ^ (d - k) + 1) l) l.length A1 A2 c1 c2 (l.length / 64 + 1) (Wv.lbits (d - 1 - k) (2 ^ k) l) (wr.alloc (.cells #[.int .i64 l.length, .slice A1 (l.length / 64 + 1) c1, .slice A2 (l.length / 64 + 1) c2] 27)) :=
        ⟨hG.alloc _, by simp, by simp, by simp, hI.alloc _, hbW.alloc hbW.size _, by simp, hb4.size⟩
      have HH : Hid (∀ W, RB wB w2.heap.size wr.heap.size (Wv.st (d - k) (n / 2 ^ (d - k)) l) (Wv.st (d - k) (n / 2 ^ (d - k) + 1) l) l.length A1 A2 c1 c2 (l.length / 64 + 1) (Wv.lbits (d - 1 - k) (2 ^ k) l) W → Calls Try.prog 76 #[.agg #[.int .i64 (Wv.st (d - k) (n / 2 ^ (d - k)) l : Nat), .int .i64 (Wv.st (d - k) (n / 2 ^ (d - k) + 1) l : Nat)], .agg #[.int .i64 l.length, .slice A1 (l.length / 64 + 1) c1, .slice A2 (l.length / 64 + 1) c2], .bool (Wv.bit (d - 1 - k) n)] W fun e w' =>
          e = .returned (.agg #[.int .i64 (Wv.st (d - (k + 1)) (n / 2 ^ (d - (k + 1))) l : Nat), .int .i64 (Wv.st (d - (k + 1)) (n / 2 ^ (d - (k + 1)) + 1) l : Nat)]) ∧ RB wB w2.heap.size wr.heap.size (Wv.st (d - k) (n / 2 ^ (d - k)) l) (Wv.st (d - k) (n / 2 ^ (d - k) + 1) l) l.length A1 A2 c1 c2 (l.length / 64 + 1) (Wv.lbits (d - 1 - k) (2 ^ k) l) w') := Lib.hid fun W hW => by
        have := lvl_half d k (n / 2 ^ (d - k)) l A1 A2 c1 c2 (Wv.bit (d - 1 - k) n) W hlt hpk hsm hlen hW.made
        rw [hkid] at this
        exact this.mono fun e w' ⟨h1, h2⟩ => ⟨h1, hW.on h2⟩
      have HV : Hid (∀ W, RB wB w2.heap.size wr.heap.size (Wv.st (d - k) (n / 2 ^ (d - k)) l) (Wv.st (d - k) (n / 2 ^ (d - k) + 1) l) l.length A1 A2 c1 c2 (l.length / 64 + 1) (Wv.lbits (d - 1 - k) (2 ^ k) l) W → Calls Try.prog 77 #[.agg #[.int .i64 (Wv.st (d - k) (n / 2 ^ (d - k)) l : Nat), .int .i64 (Wv.st (d - k) (n / 2 ^ (d - k) + 1) l : Nat)], .agg #[.int .i64 l.length, .slice A1 (l.length / 64 + 1) c1, .slice A2 (l.length / 64 + 1) c2], .bool (Wv.bit (d - 1 - k) n), .int .i64 a] W fun e w' =>
          e = .returned (.int .i64 (Wv.cnt (d - (k + 1)) (n / 2 ^ (d - (k + 1))) lj : Nat)) ∧ RB wB w2.heap.size wr.heap.size (Wv.st (d - k) (n / 2 ^ (d - k)) l) (Wv.st (d - k) (n / 2 ^ (d - k) + 1) l) l.length A1 A2 c1 c2 (l.length / 64 + 1) (Wv.lbits (d - 1 - k) (2 ^ k) l) w') := Lib.hid fun W hW => by
        have hX := IN.out
        rw [← hJ] at hX
        have := lvl_having d k (n / 2 ^ (d - k)) j l A1 A2 c1 c2 (Wv.bit (d - 1 - k) n) (Wv.st (d - k) (n / 2 ^ (d - k) + 1) l : Nat) a W hlt hpk hsm hlen hW.made hX
        rw [hkid, hJ] at this
        exact this.mono fun e w' ⟨h1, h2⟩ => ⟨h1, hW.on h2⟩
      have HN : Hid (near l.length (IntKind.i64.wrap ((Wv.st (d - (k + 1)) (n / 2 ^ (d - (k + 1))) l : Nat) + (Wv.cnt (d - (k + 1)) (n / 2 ^ (d - (k + 1))) lj : Nat))) = Wv.st (d - (k + 1)) (n / 2 ^ (d - (k + 1))) l + Wv.cnt (d - (k + 1)) (n / 2 ^ (d - (k + 1))) lj) := Lib.hid (by
        have s1 := Wv.cnt_take_le (d - (k + 1)) (n / 2 ^ (d - (k + 1))) j l
        rw [hJ] at s1
        have s2 : Wv.st (d - (k + 1)) (n / 2 ^ (d - (k + 1))) l + Wv.cnt (d - (k + 1)) (n / 2 ^ (d - (k + 1))) l ≤ l.length := by
          have hfit : ∀ m ∈ l, m < 2 ^ (d - (k + 1) + (k + 1)) := by rw [show d - (k + 1) + (k + 1) = d from by omega]; exact Hfit.out
          rw [← Wv.st_all (d - (k + 1)) (k + 1) l hfit]
          exact Wv.st_mono _ _ _ _ (Nat.div_lt_of_lt_mul (by rw [← Nat.pow_add, show d - (k + 1) + (k + 1) = d from by omega]; exact hn))
        rw [w64 _ (by omega) (by omega), ← Int.natCast_add]
        exact near_of _ _ (by omega))
      have hlz : (k : Int) < (d : Int) := by omega
      have hG2 : w2.heap.size < wr.heap.size := hG.lt
      clear hkid hpk hlen HL Hlen Hst hI hG IN IE
      obtain ⟨F', hF'⟩ : ∃ F', Wv.st (d - (k + 1)) (n / 2 ^ (d - (k + 1))) l = F' := ⟨_, rfl⟩
      obtain ⟨T', hT'⟩ : ∃ T', Wv.st (d - (k + 1)) (n / 2 ^ (d - (k + 1)) + 1) l = T' := ⟨_, rfl⟩
      obtain ⟨a', ha'⟩ : ∃ a', Wv.cnt (d - (k + 1)) (n / 2 ^ (d - (k + 1))) lj = a' := ⟨_, rfl⟩
      have HEq := Lib.hid (And.intro hF' (And.intro hT' ha'))
      rw [hF', hT'] at HH
      rw [ha'] at HV
      clear hF' hT' ha'
      generalize l.length / 64 + 1 = mp at *
      generalize Wv.lbits (d - 1 - k) (2 ^ k) l = bs at *
      generalize Wv.bit (d - 1 - k) n = one at *
      generalize Wv.st (d - k) (n / 2 ^ (d - k)) l = F at *
      generalize Wv.st (d - k) (n / 2 ^ (d - k) + 1) l = T at *
      have z1 := (HB1.out _ J0.old).1
      go_wp2_with fail
      with_reducible refine (HO.out _).mono ?_
      rintro e w3 ⟨rfl, rfl⟩
      obtain ⟨V, hV⟩ : ∃ V, V = wr.alloc (.cells #[.int .i64 l.length, .slice A1 mp c1, .slice A2 mp c2] 27) := ⟨_, rfl⟩
      rw [← hV] at J0 ⊢
      have J1 := J0
      clear J0 HO q1 q2 q3 z1 hV
      have j0 := J1.g0
      have j1 := J1.g1
      have j2 := J1.b0
      have j3 := J1.b1
      have j4 := J1.b2
      have J2 := J1.drew
      go_upto_region 8 with fail
      refine wp_region_takes 9 [0, 1, 2, 4, 5, 6, 7] [3, 8] (fun w' => w'.cell? ⟨w2.heap.size, 0, none⟩ = some (.int .i64 F) ∧ w'.cell? ⟨w2.heap.size, 1, none⟩ = some (.int .i64 T) ∧ w'.cell? ⟨wr.heap.size, 0, none⟩ = some (.int .i64 l.length) ∧ w'.cell? ⟨wr.heap.size, 1, none⟩ = some (.slice A1 mp c1) ∧ w'.cell? ⟨wr.heap.size, 2, none⟩ = some (.slice A2 mp c2)) (by kernel_rfl) (by kernel_rfl) ⟨j0, j1, j2, j3, j4⟩ ?_
      refine wpTakes_cons (v := ?_) _ at0 rfl ?_ ?_ ?_
      rotate_left 1
      · rintro W ⟨x0, x1, x2, x3, x4⟩
        go_simp
        rfl
      · exact fun _ _ _ h => h
      simp only [Act.put, List.setIfInBounds_toArray, List.set_cons_zero, List.set_cons_succ]
      refine wpTakes_cons (v := ?_) _ at1 rfl ?_ ?_ ?_
      rotate_left 1
      · rintro W ⟨x0, x1, x2, x3, x4⟩
        go_simp
        rfl
      · exact fun _ _ _ h => h
      simp only [Act.put, List.setIfInBounds_toArray, List.set_cons_zero, List.set_cons_succ]
      refine wpTakes_cons (v := ?_) _ at2 rfl ?_ ?_ ?_
      rotate_left 1
      · rintro W ⟨x0, x1, x2, x3, x4⟩
        go_simp
        rfl
      · exact fun _ _ _ h => h
      simp only [Act.put, List.setIfInBounds_toArray, List.set_cons_zero, List.set_cons_succ]
      refine wpTakes_cons (v := ?_) _ at4 rfl ?_ ?_ ?_
      rotate_left 1
      · rintro W ⟨x0, x1, x2, x3, x4⟩
        go_simp
        rfl
      · exact fun _ _ _ h => h
      simp only [Act.put, List.setIfInBounds_toArray, List.set_cons_zero, List.set_cons_succ]
      refine wpTakes_cons (v := ?_) _ at5 rfl ?_ ?_ ?_
      rotate_left 1
      · rintro W ⟨x0, x1, x2, x3, x4⟩
        go_simp
        rfl
      · exact fun _ _ _ h => h
      simp only [Act.put, List.setIfInBounds_toArray, List.set_cons_zero, List.set_cons_succ]
      refine wpTakes_cons (v := ?_) _ at6 rfl ?_ ?_ ?_
      rotate_left 1
      · rintro W ⟨x0, x1, x2, x3, x4⟩
        go_simp
        rfl
      · exact fun _ _ _ h => h
      simp only [Act.put, List.setIfInBounds_toArray, List.set_cons_zero, List.set_cons_succ]
      refine wpTakes_cons (v := ?_) _ at7 rfl ?_ ?_ ?_
      rotate_left 1
      · rintro W ⟨x0, x1, x2, x3, x4⟩
        go_simp
        rfl
      · exact fun _ _ _ h => h
      simp only [Act.put, List.setIfInBounds_toArray, List.set_cons_zero, List.set_cons_succ]
      refine wpTakes_nil (wpCalls_cons _ at3 rfl fun K hK => ?_)
      go_simp
      go_at_call 76
      refine (HH.out _ J2).mono ?_
      rintro e w4 ⟨rfl, J3⟩
      refine hK.out _ _ ⟨J3.g0, J3.g1, J3.b0, J3.b1, J3.b2⟩ ?_
      clear hK
      refine wpCalls_cons _ at8 rfl fun K hK => ?_
      go_simp
      go_at_call 77
      refine (HV.out _ J3).mono ?_
      rintro e w5 ⟨rfl, J4⟩
      refine hK.out _ _ ⟨J4.g0, J4.g1, J4.b0, J4.b1, J4.b2⟩ (wpCalls_nil ?_)
      clear hK J3
      simp only [List.drop_succ_cons, List.drop_zero]
      have k0 := J4.g0
      have k1 := J4.g1
      have k5 := J4.grp.frozen 0
      have k6 := J4.grp.frozen 1
      have HST := Lib.hid (J4.store F' T')
      clear J1 J2 j0 j1 j2 j3 j4 HH HV J4
      obtain ⟨e1, e2, e3⟩ := HEq.out
      clear HEq
      rw [← e3]
      go_wp2
      obtain ⟨r1, r2⟩ := HST.out
      go_roundw
      case rel => exact ⟨k + 1, _, by omega, by go_num, rfl, HN, (fun _ => rfl : k + 1 = d → ((Wv.cnt (d - (k + 1)) (n / 2 ^ (d - (k + 1))) lj : Nat) : Int) = (Wv.cnt (d - (k + 1)) (n / 2 ^ (d - (k + 1))) lj : Nat)), by rw [e1, e2]; exact r1, r2⟩
      case measure => simp [intOf]; omega
    · have hkd : k = d := by omega
      subst hkd
      have HE := Lib.hid (IE.out rfl)
      have hold := hb0.trans (hbW.mono hb0.size)
      rw [Hend.out] at HE
      rw [HE.out]
      clear HE IE IN Hst Hend
      go_wp2
      go_ret
      exact ⟨rfl, hold⟩

theorem count_wave {w : World} {A : Option Addr} {d : Nat} {l : List Nat} (h : Wave w A d l) (c : Nat) (n i : Int) (hi1 : -9223372036854775808 ≤ i) (hi2 : i ≤ 9223372036854775807) :
    Calls Try.prog 42 #[.agg #[.int .i64 l.length, .int .i64 d, .slice A d c], .int .i64 n, .int .i64 i] w fun e w' => e = .returned (.int .i64 (countI l n i)) ∧ Below w.heap.size w w' := by
  unfold countI
  have h2 : (2 : Int) ^ d = ((2 ^ d : Nat) : Int) := by simp
  by_cases h0 : 0 ≤ n
  · rw [if_pos h0]
    obtain ⟨k, rfl⟩ := Int.eq_ofNat_of_zero_le h0
    rw [Int.toNat_natCast]
    by_cases hk : k < 2 ^ d
    · exact count_in h c k i hk hi1 hi2
    · have e : (l.take (Wv.cl l.length i)).count k = 0 := by
        rw [List.count_eq_zero]
        intro hm
        have := h.fit _ (List.mem_of_mem_take hm); omega
      rw [e]
      exact count_out h c k i (.inr (by omega))
  · rw [if_neg h0]
    exact count_out h c n i (.inl (by omega))

end Go.Proofs.Ytgnakccbkglfpaa
