import Derived.Test.YtoejenejleocdabGreatDoorJe
import Derived.Laws.OwnMore
/- A list of numbers in the making; what stands ahead: sort.Ahead and the reference's. -/
namespace Go.Proofs.YtoejenejleocdabGreatDoor
open Go.RowKit

/-- the number ahead of one place -/
def aheadAt (l : List Int) (e : Int) : Option Int := if 0 ≤ e ∧ e < (l.length : Int) then some (l.getD (if e = 0 then l.length - 1 else e.toNat - 1) 0) else none
theorem aheadOf_take (l es : List Int) (k : Nat) (hk : k < es.length) : En.aheadOf l (es.take (k + 1)) = En.aheadOf l (es.take k) ++ (aheadAt l (es.getD k 0)).toList := by
  unfold En.aheadOf
  rw [List.take_succ_eq_append_getElem hk, List.filterMap_append]
  congr 1
  rw [show es.getD k 0 = es[k] from by simp [hk]]
  unfold aheadAt
  rw [List.filterMap_cons, List.filterMap_nil]
  split <;> simp_all
theorem aheadOf_len (l es : List Int) (k : Nat) : (En.aheadOf l (es.take k)).length ≤ k := by
  unfold En.aheadOf
  exact Nat.le_trans (List.length_filterMap_le _ _) (by rw [List.length_take]; omega)
theorem aheadAt_no (l : List Int) (e : Int) (h : e < 0 ∨ (l.length : Int) ≤ e) : aheadAt l e = none := by
  unfold aheadAt; rw [if_neg (by omega)]
theorem aheadAt_zero (l : List Int) (h : 0 < l.length) : aheadAt l 0 = some (l.getD (l.length - 1) 0) := by
  unfold aheadAt; rw [if_pos (by omega), if_pos rfl]
theorem aheadAt_succ (l : List Int) (p : Nat) (h : p + 1 < l.length) : aheadAt l ((p : Int) + 1) = some (l.getD p 0) := by
  unfold aheadAt; rw [if_pos (by omega), if_neg (by omega)]
  congr 2

set_option maxHeartbeats 2000000 in
theorem ahead_any (A A2 : Option Addr) (c c2 : Nat) (l es : List Int) (w : World) (hr : IRow w w.heap.size A l) (hr2 : IRow w w.heap.size A2 es) (hn : l.length ≤ 17592186044416) (hm : es.length ≤ 17592186043904) :
    Calls Tryz.prog 46 #[.slice A l.length c, .slice A2 es.length c2] w (Ints w (En.aheadOf l es)) := by
  have HT := Lib.hid (aheadOf_take l es)
  have HLn := Lib.hid (aheadOf_len l es)
  have HE := Lib.hid (show En.aheadOf l (es.take es.length) = En.aheadOf l es from by rw [List.take_length])
  have H1 := Lib.hid (aheadAt_no l)
  have H2 := Lib.hid (aheadAt_zero l)
  have H3 := Lib.hid (aheadAt_succ l)
  have Hr : Row w w.heap.size A l.length (fun i => .int .i64 (l.getD i 0)) := hr
  have Hr2 : Row w w.heap.size A2 es.length (fun i => .int .i64 (es.getD i 0)) := hr2
  have R0 : Hid (∀ W : World, Below w.heap.size w W → ∀ i, i < l.length → ∃ b o, A = some ⟨b, o, none⟩ ∧ W.cell? ⟨b, o + i, none⟩ = some (.int .i64 (l.getD i 0))) := Lib.hid fun W h i hi => by
    obtain ⟨b, o, e, hb, hc⟩ := Hr (by omega)
    exact ⟨b, o, e, (h.cell (p := ⟨b, o + i, none⟩) hb).trans (hc i hi)⟩
  have R2 : Hid (∀ W : World, Below w.heap.size w W → ∀ i, i < es.length → ∃ b o, A2 = some ⟨b, o, none⟩ ∧ W.cell? ⟨b, o + i, none⟩ = some (.int .i64 (es.getD i 0))) := Lib.hid fun W h i hi => by
    obtain ⟨b, o, e, hb, hc⟩ := Hr2 (by omega)
    exact ⟨b, o, e, (h.cell (p := ⟨b, o + i, none⟩) hb).trans (hc i hi)⟩
  clear Hr Hr2 hr hr2
  generalize l.length = n at *
  generalize es.length = m at *
  go_enter Tryz.func46, Tryz.ntmps46
  go_wp2
  go_loopw [5, 10] (fun s5 s W => ∃ k : Nat, k ≤ m ∧ s = .int .i64 k ∧ OL w (En.aheadOf l (es.take k)) s5 W) (fun _ s _ => m - (intOf s).toNat)
  case atStart => exact ⟨0, Nat.zero_le _, rfl, by simpa [En.aheadOf] using OL.nil w w (Below.refl _ _)⟩
  case round =>
    obtain ⟨k, hk, rfl, J⟩ := hrel
    by_cases hlt : k < m
    · obtain ⟨b2, o2, rfl, hc2⟩ := R2.out wr J.old k hlt
      have HT1 := Lib.hid (HT.out k hlt)
      have hln := HLn.out k
      have hz : (k : Int) < (m : Int) := by omega
      generalize es.getD k 0 = e at *
      by_cases he : e < 0 ∨ (n : Int) ≤ e
      · have J2 : OL w (En.aheadOf l (es.take (k + 1))) u5 wr := by rw [HT1.out, H1.out e he]; simpa using J
        rcases he with he | he
        · go_wp2
          go_roundw
          case rel => exact ⟨k + 1, by omega, by go_num, J2⟩
          case measure => simp [intOf]; omega
        · have he0 : ¬ e < 0 := by omega
          go_wp2
          go_roundw
          case rel => exact ⟨k + 1, by omega, by go_num, J2⟩
          case measure => simp [intOf]; omega
      · have he1 : ¬ e < 0 := by omega
        have he2 : ¬ (n : Int) ≤ e := by omega
        obtain ⟨p, rfl⟩ : ∃ p : Nat, e = p := ⟨e.toNat, by omega⟩
        obtain ⟨i, hi, hv, hmod⟩ : ∃ i, i < n ∧ aheadAt l (p : Int) = some (l.getD i 0) ∧ ((p : Int) + (n : Int) - 1).tmod (n : Int) = (i : Int) := by
          by_cases hp : p = 0
          · subst hp
            refine ⟨n - 1, by omega, H2.out (by omega), ?_⟩
            rw [Int.tmod_eq_emod_of_nonneg (by omega), Int.emod_eq_of_lt (by omega) (by omega)]
            omega
          · refine ⟨p - 1, by omega, ?_, ?_⟩
            · have := H3.out (p - 1) (by omega)
              rwa [show ((p - 1 : Nat) : Int) + 1 = (p : Int) from by omega] at this
            · rw [Int.tmod_eq_emod_of_nonneg (by omega), show (p : Int) + (n : Int) - 1 = ((p - 1 : Nat) : Int) + (n : Int) from by omega, Int.add_emod_right, Int.emod_eq_of_lt (by omega) (by omega)]
        obtain ⟨b0, o0, rfl, hc0⟩ := R0.out wr J.old i hi
        generalize l.getD i 0 = x at *
        rw [hv] at HT1
        have hmx : (En.aheadOf l (es.take k)).length + 1 ≤ maxLen := by unfold maxLen; omega
        have hsz := J.old.size
        have J1 := J.on ((Below.refl _ wr).alloc (Nat.le_refl _) (.cells #[.int .i64 x] 3))
        have HJ : Hid (∀ v' W', W'.ownsRow w.heap.size 3 1 v' ((En.aheadOf l (es.take k)).length + 1) ((En.aheadOf l (es.take k)).map (Value.int .i64) ++ [.int .i64 x]) → (wr.alloc (.cells #[.int .i64 x] 3)).grownBy W' u5.ownBlock → OL w (En.aheadOf l (es.take (k + 1))) v' W') := Lib.hid fun v' W' h1 h2 => by
          have := J1.app x h1 h2
          rw [HT1.out]; exact this
        have v1 : IntKind.i64.wrap ((p : Int) + (n : Int)) = (p : Int) + (n : Int) := by simp [IntKind.wrap, IntKind.bits, IntKind.signed]; omega
        have v2 : IntKind.i64.wrap ((p : Int) + (n : Int) - 1) = (p : Int) + (n : Int) - 1 := by simp [IntKind.wrap, IntKind.bits, IntKind.signed]; omega
        have v3 : (i : Int) < (n : Int) := by omega
        have v4 : ¬ (n : Int) = 0 := by omega
        generalize En.aheadOf l (es.take k) = L at *
        clear hv H1 H2 H3 HT1 J HT HE R0 R2
        go_wp2_with (at_builtin; refine wpList_app1 _ rfl _ _ 22 rfl w.heap.size 3 (.int .i64 0) 8 Tryz.underlying22 infoInt' rfl _ L.length (L.map (Value.int .i64)) rfl wr.heap.size (.int .i64 x) rfl J1.own (new1 _ _ _) (by simp) rfl hmx (by omega) (by simp; omega) ?_; intro v' w2 h2 h3 h4)
        have J3 := HJ.out v' w2 h2 h3
        go_roundw
        case rel => exact ⟨k + 1, by omega, by go_num, J3⟩
        case measure => simp [intOf]; omega
    · have hkm : k = m := by omega
      subst hkm
      have HO := Lib.hid J.ints
      rw [HE.out] at HO
      go_wp2
      go_ret
      exact HO.out

end Go.Proofs.YtoejenejleocdabGreatDoor

/- Is a list one of signs: sort.Good and the reference's. -/
namespace Go.Proofs.YtoejenejleocdabGreatDoor
open Go.RowKit

/-- what Good asks, place by place -/
theorem good_iff (l : List Int) : En.good l = true ↔ 0 < l.length ∧ l.getD (l.length - 1) 0 = 0 ∧ ∀ i, i < l.length - 1 → 0 < l.getD i 0 := by
  unfold En.good
  simp only [Bool.and_eq_true, decide_eq_true_eq, beq_iff_eq, List.all_eq_true]
  constructor
  · rintro ⟨⟨h1, h2⟩, h3⟩
    refine ⟨h1, h2, fun i hi => ?_⟩
    have := h3 l[i] (by rw [List.mem_take_iff_getElem]; exact ⟨i, by omega, rfl⟩)
    have hi' : i < l.length := by omega
    simpa [hi'] using this
  · rintro ⟨h1, h2, h3⟩
    refine ⟨⟨h1, h2⟩, fun x hx => ?_⟩
    rw [List.mem_take_iff_getElem] at hx
    obtain ⟨i, hi, rfl⟩ := hx
    have hi' : i < l.length := by omega
    have := h3 i (by omega)
    simpa [hi'] using this

set_option maxHeartbeats 1000000 in
theorem goodL_any (A : Option Addr) (c : Nat) (l : List Int) (w : World) (hr : IRow w w.heap.size A l) (hn : l.length ≤ 17592186044416) (hcap : l.length ≤ c) :
    Calls Tryz.prog 43 #[.slice A l.length c] w fun e w' => e = .returned (.bool (En.good l)) ∧ Below w.heap.size w w' := by
  have Hg := Lib.hid (good_iff l)
  have Hr : Row w w.heap.size A l.length (fun i => .int .i64 (l.getD i 0)) := hr
  generalize En.good l = r at *
  by_cases h0 : l.length = 0
  · have hf : r = false := by
      rw [Bool.eq_false_iff]; intro h; have := (Hg.out.1 h).1; omega
    subst hf
    clear Hg hr Hr
    rw [h0]
    go_enter Tryz.func43, Tryz.ntmps43
    go_wp2
    go_ret
    exact ⟨rfl, Below.refl _ _⟩
  · obtain ⟨n, hnn⟩ : ∃ n, l.length = n + 1 := ⟨l.length - 1, by omega⟩
    rw [hnn] at Hr hn Hg hcap ⊢
    rw [Nat.add_sub_cancel] at Hg
    obtain ⟨b, o, rfl, hb, hc⟩ := Hr (by omega)
    have hc1 : w.cell? ⟨b, o + n, none⟩ = some (.int .i64 (l.getD n 0)) := hc n (by omega)
    have HC := Lib.hid (fun c' => containsFunc_any (some ⟨b, o, none⟩) n c' (fun k => l.getD k 0) w (Hr.less (by omega)) (by omega))
    clear hc Hr hr h0 hnn
    have hcz : (n : Int) ≤ (c : Int) := by omega
    by_cases hx : l.getD n 0 = 0
    · rw [hx] at hc1
      go_enter Tryz.func43, Tryz.ntmps43
      go_wp2_with fail
      with_reducible refine (HC.out _).mono ?_
      rintro e w1 ⟨v, rfl, hv, rfl⟩
      have hrv : r = !v := by
        rw [Bool.eq_iff_iff, Hg.out]
        simp only [Bool.not_eq_true', Bool.eq_false_iff, ne_eq, hv]
        constructor
        · rintro ⟨_, _, h3⟩ ⟨i, hi, h4⟩
          have := h3 i hi
          omega
        · intro h
          refine ⟨by omega, hx, fun i hi => ?_⟩
          rcases Int.lt_or_le 0 (l.getD i 0) with h5 | h5
          · exact h5
          · exact absurd ⟨i, hi, h5⟩ h
      subst hrv
      clear Hg HC hx hv
      go_wp2
      go_ret
      exact ⟨rfl, Below.refl _ _⟩
    · have hf : r = false := by
        rw [Bool.eq_false_iff]; intro h; exact hx (Hg.out.1 h).2.1
      subst hf
      generalize l.getD n 0 = x at *
      have hd : (x == 0) = false := by simp [hx]
      clear Hg hx
      go_enter Tryz.func43, Tryz.ntmps43
      go_wp2
      go_ret
      exact ⟨rfl, Below.refl _ _⟩

end Go.Proofs.YtoejenejleocdabGreatDoor
