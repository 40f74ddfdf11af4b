/- What the search by halves and bits.Find answer. -/
import Derived.Test.YtgnakccbkglfpaaBf
namespace Go.Proofs.Ytgnakccbkglfpaa
open Go.RowKit
attribute [local irreducible] Bt.pop Bt.popF

/-- the function that the search is handed: is what stands ahead of part i more than k? -/
theorem find1_any (i na ca b2 o2 gb gk : Nat) (k : Int) (a : Nat → Int) (w : World) (hi : i < na)
    (c2 : w.cell? ⟨gb, 2, none⟩ = some (.slice (some ⟨b2, o2, none⟩) na ca)) (ck : w.cell? ⟨gk, 0, none⟩ = some (.int .i64 k)) (ha : w.cell? ⟨b2, o2 + i, none⟩ = some (.int .i64 (a i))) :
    Calls Try.prog 53 #[.int .i64 i, .pointer (some ⟨gb, 0, none⟩), .pointer (some ⟨gk, 0, none⟩)] w fun e w' => e = .returned (.bool (decide (k < a i))) ∧ ∃ q, w' = w.drewN q := by
  have hiz : (i : Int) < (na : Int) := by omega
  go_enter Try.func53, Try.ntmps53
  go_wp2
  go_quiet (fail)
  go_wp2
  go_ret
  exact ⟨rfl, _, rfl⟩

set_option maxHeartbeats 1000000 in
/-- the search by halves, of whatever function that reads: it ends at a place behind a no and ahead of a yes -/
theorem search_any (n : Nat) (cb : Array Value) (p : Nat → Bool) (w : World) (hn : n < 4611686018427387904)
    (hf : ∀ q i, i < n → Calls Try.prog 53 (#[.int .i64 i] ++ cb) (w.drewN q) fun e w' => e = .returned (.bool (p i)) ∧ ∃ q', w' = (w.drewN q).drewN q') :
    Calls Try.prog 52 #[.int .i64 n, .func (.func 53) #[] cb] w fun e w' =>
      ∃ r q : Nat, e = .returned (.int .i64 r) ∧ r ≤ n ∧ (0 < r → p (r - 1) = false) ∧ (r < n → p r = true) ∧ w' = w.drewN q := by
  have HF := Lib.hid hf
  clear hf
  go_enter Try.func52, Try.ntmps52
  go_wp2
  go_loopw [5, 6] (fun s5 s6 wr => ∃ lo hi q : Nat, s5 = .int .i64 lo ∧ s6 = .int .i64 hi ∧ lo ≤ hi ∧ hi ≤ n ∧ wr = w.drewN q ∧ Hid ((0 < lo → p (lo - 1) = false) ∧ (hi < n → p hi = true)))
    (fun s5 s6 _ => (intOf s6).toNat - (intOf s5).toNat)
  case atStart => exact ⟨0, n, 0, rfl, rfl, Nat.zero_le _, Nat.le_refl _, rfl, (⟨fun h => absurd h (by omega), fun h => absurd h (by omega)⟩ : (0 < 0 → p (0 - 1) = false) ∧ (n < n → p n = true))⟩
  case round =>
    obtain ⟨lo, hi, q, rfl, rfl, hlh, hin, rfl, I⟩ := hrel
    by_cases hlt : lo < hi
    · have hc := HF.out q ((lo + hi) / 2) (by omega)
      rw [show (((lo + hi) / 2 : Nat) : Int) = ((lo : Int) + (hi : Int)) / 2 from by omega] at hc
      cases hp : p ((lo + hi) / 2) <;> rw [hp] at hc
      · have HP := Lib.hid hp
        have HC := Lib.hid hc
        clear hp hc
        go_wp2_with fail
        refine HC.out.mono ?_
        rintro e w' ⟨rfl, q', rfl⟩
        go_wp2
        go_roundw
        case rel => exact ⟨(lo + hi) / 2 + 1, hi, q + q', by go_num, rfl, by omega, hin, rfl, (⟨fun _ => by rw [Nat.add_sub_cancel]; exact HP.out, I.out.2⟩ : (0 < (lo + hi) / 2 + 1 → p ((lo + hi) / 2 + 1 - 1) = false) ∧ (hi < n → p hi = true))⟩
        case measure => simp [intOf]; omega
      · have HP := Lib.hid hp
        have HC := Lib.hid hc
        clear hp hc
        go_wp2_with fail
        refine HC.out.mono ?_
        rintro e w' ⟨rfl, q', rfl⟩
        go_wp2
        go_roundw
        case rel => exact ⟨lo, (lo + hi) / 2, q + q', rfl, by go_num, by omega, by omega, rfl, (⟨I.out.1, fun _ => HP.out⟩ : (0 < lo → p (lo - 1) = false) ∧ ((lo + hi) / 2 < n → p ((lo + hi) / 2) = true))⟩
        case measure => simp [intOf]; omega
    · obtain rfl : lo = hi := by omega
      go_wp2
      go_ret
      exact ⟨lo, q, rfl, hin, I.out.1, I.out.2, rfl⟩

/-- what Find answers of bits that Make has made -/
def FindIs (l : List Bool) (k v : Int) : Prop :=
  (v = -1 ∧ (k < 0 ∨ (Bt.ones l : Int) ≤ k)) ∨ ∃ i : Nat, v = i ∧ l.getD i false = true ∧ (Bt.ones (l.take i) : Int) = k

theorem ahd_all (l : List Bool) : Bt.ahd l (l.length / 64 + 1) = Bt.ones l := by
  unfold Bt.ahd
  rw [List.take_of_length_le (by omega)]

theorem find_none (l : List Bool) (k r : Nat) (h0 : 0 < r) (hr : r ≤ l.length / 64 + 1) (hp : r < l.length / 64 + 1 → k < Bt.ahd l r) (hk : Bt.ahd l (r - 1) ≤ k) (h : Bt.pop (Bt.part l (r - 1)) ≤ k - Bt.ahd l (r - 1)) : FindIs l k (-1) := by
  refine .inl ⟨rfl, .inr ?_⟩
  have e := Bt.ahd_succ l (r - 1)
  rw [show r - 1 + 1 = r from by omega] at e
  by_cases hlt : r < l.length / 64 + 1
  · have := hp hlt; omega
  · have hm : r = l.length / 64 + 1 := by omega
    have := ahd_all l
    rw [← hm] at this
    omega
theorem find_some (l : List Bool) (k r j : Nat) (hk : Bt.ahd l r ≤ k) (hj : j < 64) (hb : Bt.part l r / 2 ^ j % 2 = 1) (hc : Bt.popF j (Bt.part l r) = k - Bt.ahd l r) : FindIs l k ((r * 64 + j : Nat) : Int) := by
  refine .inr ⟨r * 64 + j, rfl, ?_, ?_⟩
  · have h := Bt.bit_at l (r * 64 + j)
    rw [show (r * 64 + j) / 64 = r from by omega, show (r * 64 + j) % 64 = j from by omega, hb] at h
    exact h.symm
  · have h := Bt.ones_take l (r * 64 + j)
    rw [show (r * 64 + j) / 64 = r from by omega, show (r * 64 + j) % 64 = j from by omega, popF_low _ _ (by omega), hc] at h
    omega

set_option maxHeartbeats 1000000 in
theorem find_made (l : List Bool) (k : Int) (A : Option Addr) (np cp : Nat) (A2 : Option Addr) (na ca : Nat) (w : World) (hI : IsBits w w.heap.size A A2 l) (hp : np = l.length / 64 + 1) (ha : na = l.length / 64 + 1) (hl : l.length ≤ 140737488355328) (hk2 : k ≤ 9223372036854775807) :
    Calls Try.prog 19 #[.agg #[.int .i64 l.length, .slice A np cp, .slice A2 na ca], .int .i64 k] w fun e w' =>
      ∃ v, e = .returned (.int .i64 v) ∧ FindIs l k v ∧ Below w.heap.size w w' := by
  have hbel : ∀ o1 o2, Below w.heap.size w ((w.alloc o1).alloc o2) := fun o1 o2 => ((Below.refl _ w).alloc (Nat.le_refl _) _).alloc (by simp) _
  by_cases h0 : k < 0
  · go_enter Try.func19, Try.ntmps19
    go_wp2
    go_ret
    exact ⟨-1, rfl, .inl ⟨rfl, .inl h0⟩, hbel _ _⟩
  · obtain ⟨K, rfl⟩ := Int.eq_ofNat_of_zero_le (show 0 ≤ k by omega)
    obtain ⟨b, o, rfl, hb, hc⟩ := hI.parts (by omega)
    obtain ⟨b2, o2, rfl, hb2, hc2⟩ := hI.ahead (by omega)
    subst np na
    have Hm := Lib.hid (show l.length / 64 + 1 = l.length / 64 + 1 from rfl)
    generalize hm : l.length / 64 + 1 = m at hc hc2 ⊢
    have HM := Lib.hid hm
    have hmb : m ≤ 2199023255553 := by omega
    have hm1 : 1 ≤ m := by omega
    clear hm Hm
    have HC := Lib.hid hc
    have HC2 := Lib.hid hc2
    clear hc hc2
    have hs : ∀ W : World, W = (w.alloc (.cells #[.int .i64 l.length, .slice (some ⟨b, o, none⟩) m cp, .slice (some ⟨b2, o2, none⟩) m ca] 27)).alloc (.cells #[.int .i64 K] 3) →
        Calls Try.prog 52 #[.int .i64 m, .func (.func 53) #[] #[.pointer (some ⟨w.heap.size, 0, none⟩), .pointer (some ⟨w.heap.size + 1, 0, none⟩)]] W fun e w' =>
          ∃ r q : Nat, e = .returned (.int .i64 r) ∧ r ≤ m ∧ (0 < r → decide ((K : Int) < (Bt.ahd l (r - 1) : Nat)) = false) ∧ (r < m → decide ((K : Int) < (Bt.ahd l r : Nat)) = true) ∧ w' = W.drewN q := by
      intro W hW
      refine search_any m _ (fun i => decide ((K : Int) < (Bt.ahd l i : Nat))) W (by omega) (fun q i hi => ?_)
      refine find1_any i m ca b2 o2 w.heap.size (w.heap.size + 1) K (fun i => (Bt.ahd l i : Nat)) (W.drewN q) hi ?_ ?_ ?_
      · show W.cell? _ = _; rw [hW]; simp
      · show W.cell? _ = _; rw [hW]; simp
      · show W.cell? _ = _; rw [hW, World.cell?_alloc_lt _ _ _ (by simp; omega), World.cell?_alloc_lt _ _ _ hb2]; exact HC2.out i hi
    have HS := Lib.hid hs
    clear hs
    go_enter Try.func19, Try.ntmps19
    go_wp2_with fail
    refine (HS.out _ rfl).mono ?_
    rintro e w' ⟨r, q, rfl, hr, hr1, hr2, rfl⟩
    have hr0 : 0 < r := by
      rcases Nat.eq_zero_or_pos r with h | h
      · subst h; have h5 := of_decide_eq_true (hr2 (by omega)); rw [Bt.ahd_zero] at h5; omega
      · exact h
    have hle : Bt.ahd l (r - 1) ≤ K := by have := hr1 hr0; simp at this; exact_mod_cast this
    have hgt : r < l.length / 64 + 1 → K < Bt.ahd l r := fun h => by have := hr2 (by have := HM.out; omega); simp at this; exact_mod_cast this
    have HN := Lib.hid (find_none l K r hr0 (by have := HM.out; omega) hgt hle)
    have HF := Lib.hid (fun j => find_some l K (r - 1) j hle)
    have kp := HC.out (r - 1) (by omega)
    have ka := HC2.out (r - 1) (by omega)
    have hpl := Bt.part_lt l (r - 1)
    generalize Bt.part l (r - 1) = P at *
    generalize Bt.ahd l (r - 1) = a at *
    clear hr1 hr2 hgt HC HC2 HS hI
    obtain ⟨t, rfl⟩ : ∃ t, r = t + 1 := ⟨r - 1, by omega⟩
    rw [Nat.add_sub_cancel] at *
    have hq5 := Bt.pop_le P
    have htm : (t : Int) < (m : Int) := by omega
    have kb := Below.drewN (hbel (.cells #[.int .i64 l.length, .slice (some ⟨b, o, none⟩) m cp, .slice (some ⟨b2, o2, none⟩) m ca] 27) (.cells #[.int .i64 K] 3)) q
    obtain ⟨W, hW⟩ : ∃ W, W = ((w.alloc (.cells #[.int .i64 l.length, .slice (some ⟨b, o, none⟩) m cp, .slice (some ⟨b2, o2, none⟩) m ca] 27)).alloc (.cells #[.int .i64 K] 3)).drewN q := ⟨_, rfl⟩
    have c1 : W.cell? ⟨w.heap.size, 1, none⟩ = some (.slice (some ⟨b, o, none⟩) m cp) := by rw [hW]; simp
    have c2 : W.cell? ⟨w.heap.size, 2, none⟩ = some (.slice (some ⟨b2, o2, none⟩) m ca) := by rw [hW]; simp
    have c3 : W.cell? ⟨w.heap.size + 1, 0, none⟩ = some (.int .i64 K) := by rw [hW]; simp
    rw [← hW] at kb ⊢
    have c4 : W.cell? ⟨b, o + t, none⟩ = some (.int .u64 P) := (kb.cell (p := ⟨b, o + t, none⟩) hb).trans kp
    have c5 : W.cell? ⟨b2, o2 + t, none⟩ = some (.int .i64 a) := (kb.cell (p := ⟨b2, o2 + t, none⟩) hb2).trans ka
    clear hW hbel kp ka
    go_wp2_with fail
    go_quiet (fail)
    go_wp2_with fail
    refine (ones64_any _ _ hpl).mono ?_
    rintro e w' ⟨rfl, rfl⟩
    by_cases hge : Bt.pop P ≤ K - a
    · have HN2 := HN.out hge
      clear HN HF
      generalize Bt.pop P = pp at *
      go_wp2
      go_ret
      exact ⟨-1, rfl, HN2, Below.drewN kb _⟩
    · have HL := Lib.hid (show K - a < Bt.pop P by omega)
      clear HN
      have hge2 : ¬ ((Bt.pop P : Nat) : Int) ≤ (K : Int) - (a : Int) := by omega
      go_wp2_with fail
      rw [show ((K : Int) - (a : Int)) = ((K - a : Nat) : Int) from by omega]
      refine (findInPart_any _ _ _ hpl HL.out).mono ?_
      rintro e w' ⟨j, rfl, hj, hj1, hj2, rfl⟩
      have HV := HF.out j hj hj1 hj2
      clear HF hj1 hj2 HL hge hge2
      go_wp2
      go_ret
      exact ⟨_, rfl, by first | exact HV | (rw [show ((t : Int) * 64 + (j : Int)) = ((t * 64 + j : Nat) : Int) from by omega]; exact HV), Below.drewN kb _⟩

end Go.Proofs.Ytgnakccbkglfpaa
