/- A list of numbers in the making; what stands ahead: sort.Ahead and the reference's. -/
import Derived.Test.YtnmhjhfdgfdooaaSl
import Derived.Laws.OwnMore
namespace Go.Proofs.Ytnmhjhfdgfdooaa
open Go.RowKit

/-- a list in the making: a row of the call's own -/
structure OL (w : World) (L : List Int) (v : Value) (W : World) : Prop where
  own : W.ownsRow w.heap.size 3 1 v L.length (L.map (Value.int .i64))
  old : Below w.heap.size w W
theorem OL.nil (w W : World) (h : Below w.heap.size w W) : OL w [] (.slice none 0 0) W := ⟨World.ownsRow_nil _ _ _ _, h⟩
theorem OL.on {w : World} {L : List Int} {v : Value} {W W' : World} (h : OL w L v W) (hb : Below W.heap.size W W') : OL w L v W' := ⟨own_below h.own hb, h.old.trans (hb.mono h.old.size)⟩
theorem OL.app {w : World} {L : List Int} {v v' : Value} {W W' : World} (h : OL w L v W) (x : Int) (h2 : W'.ownsRow w.heap.size 3 1 v' (L.length + 1) (L.map (Value.int .i64) ++ [.int .i64 x])) (hg : W.grownBy W' v.ownBlock) : OL w (L ++ [x]) v' W' :=
  ⟨by simpa using h2, h.old.grown hg h.old.size (fun g hg => (h.own.lt g hg).1)⟩
theorem OL.ints {w : World} {L : List Int} {v : Value} {W : World} (h : OL w L v W) : Ints w L (.returned v) W := by
  obtain ⟨A, c, rfl, _⟩ := own_slice h.own
  obtain ⟨_, hr⟩ := own_row (0 : Int) h.own
  exact ⟨A, c, rfl, hr, h.old⟩

/-- the number ahead of one place -/
def aheadAt (l : List Int) (e : Int) : Option Int := if 0 ≤ e ∧ e < (l.length : Int) then some (l.getD (if e = 0 then l.length - 1 else e.toNat - 1) 0) else none
theorem aheadOf_take (l es : List Int) (k : Nat) (hk : k < es.length) : En.aheadOf l (es.take (k + 1)) = En.aheadOf l (es.take k) ++ (aheadAt l (es.getD k 0)).toList := by
  unfold En.aheadOf
  rw [List.take_succ_eq_append_getElem hk, List.filterMap_append]
  congr 1
  rw [show es.getD k 0 = es[k] from by simp [hk]]
  unfold aheadAt
  rw [List.filterMap_cons, List.filterMap_nil]
  split <;> simp_all
theorem aheadOf_len (l es : List Int) (k : Nat) : (En.aheadOf l (es.take k)).length ≤ k := by
  unfold En.aheadOf
  exact Nat.le_trans (List.length_filterMap_le _ _) (by rw [List.length_take]; omega)
theorem aheadAt_no (l : List Int) (e : Int) (h : e < 0 ∨ (l.length : Int) ≤ e) : aheadAt l e = none := by
  unfold aheadAt; rw [if_neg (by omega)]
theorem aheadAt_zero (l : List Int) (h : 0 < l.length) : aheadAt l 0 = some (l.getD (l.length - 1) 0) := by
  unfold aheadAt; rw [if_pos (by omega), if_pos rfl]
theorem aheadAt_succ (l : List Int) (p : Nat) (h : p + 1 < l.length) : aheadAt l ((p : Int) + 1) = some (l.getD p 0) := by
  unfold aheadAt; rw [if_pos (by omega), if_neg (by omega)]
  congr 2

set_option maxHeartbeats 2000000 in
theorem ahead_any (A A2 : Option Addr) (c c2 : Nat) (l es : List Int) (w : World) (hr : IRow w w.heap.size A l) (hr2 : IRow w w.heap.size A2 es) (hn : l.length ≤ 17592186044416) (hm : es.length ≤ 17592186043904) :
    Calls Try.prog 29 #[.slice A l.length c, .slice A2 es.length c2] w (Ints w (En.aheadOf l es)) := by
  have HT := Lib.hid (aheadOf_take l es)
  have HLn := Lib.hid (aheadOf_len l es)
  have HE := Lib.hid (show En.aheadOf l (es.take es.length) = En.aheadOf l es from by rw [List.take_length])
  have H1 := Lib.hid (aheadAt_no l)
  have H2 := Lib.hid (aheadAt_zero l)
  have H3 := Lib.hid (aheadAt_succ l)
  have Hr : Row w w.heap.size A l.length (fun i => .int .i64 (l.getD i 0)) := hr
  have Hr2 : Row w w.heap.size A2 es.length (fun i => .int .i64 (es.getD i 0)) := hr2
  have R0 : Hid (∀ W : World, Below w.heap.size w W → ∀ i, i < l.length → ∃ b o, A = some ⟨b, o, none⟩ ∧ W.cell? ⟨b, o + i, none⟩ = some (.int .i64 (l.getD i 0))) := Lib.hid fun W h i hi => by
    obtain ⟨b, o, e, hb, hc⟩ := Hr (by omega)
    exact ⟨b, o, e, (h.cell (p := ⟨b, o + i, none⟩) hb).trans (hc i hi)⟩
  have R2 : Hid (∀ W : World, Below w.heap.size w W → ∀ i, i < es.length → ∃ b o, A2 = some ⟨b, o, none⟩ ∧ W.cell? ⟨b, o + i, none⟩ = some (.int .i64 (es.getD i 0))) := Lib.hid fun W h i hi => by
    obtain ⟨b, o, e, hb, hc⟩ := Hr2 (by omega)
    exact ⟨b, o, e, (h.cell (p := ⟨b, o + i, none⟩) hb).trans (hc i hi)⟩
  clear Hr Hr2 hr hr2
  generalize l.length = n at *
  generalize es.length = m at *
  go_enter Try.func29, Try.ntmps29
  go_wp2
  go_loopw [5, 10] (fun s5 s W => ∃ k : Nat, k ≤ m ∧ s = .int .i64 k ∧ OL w (En.aheadOf l (es.take k)) s5 W) (fun _ s _ => m - (intOf s).toNat)
  case atStart => exact ⟨0, Nat.zero_le _, rfl, by simpa [En.aheadOf] using OL.nil w w (Below.refl _ _)⟩
  case round =>
    obtain ⟨k, hk, rfl, J⟩ := hrel
    by_cases hlt : k < m
    · obtain ⟨b2, o2, rfl, hc2⟩ := R2.out wr J.old k hlt
      have HT1 := Lib.hid (HT.out k hlt)
      have hln := HLn.out k
      have hz : (k : Int) < (m : Int) := by omega
      generalize es.getD k 0 = e at *
      by_cases he : e < 0 ∨ (n : Int) ≤ e
      · have J2 : OL w (En.aheadOf l (es.take (k + 1))) u5 wr := by rw [HT1.out, H1.out e he]; simpa using J
        rcases he with he | he
        · go_wp2
          go_roundw
          case rel => exact ⟨k + 1, by omega, by go_num, J2⟩
          case measure => simp [intOf]; omega
        · have he0 : ¬ e < 0 := by omega
          go_wp2
          go_roundw
          case rel => exact ⟨k + 1, by omega, by go_num, J2⟩
          case measure => simp [intOf]; omega
      · have he1 : ¬ e < 0 := by omega
        have he2 : ¬ (n : Int) ≤ e := by omega
        obtain ⟨p, rfl⟩ : ∃ p : Nat, e = p := ⟨e.toNat, by omega⟩
        obtain ⟨i, hi, hv, hmod⟩ : ∃ i, i < n ∧ aheadAt l (p : Int) = some (l.getD i 0) ∧ ((p : Int) + (n : Int) - 1).tmod (n : Int) = (i : Int) := by
          by_cases hp : p = 0
          · subst hp
            refine ⟨n - 1, by omega, H2.out (by omega), ?_⟩
            rw [Int.tmod_eq_emod_of_nonneg (by omega), Int.emod_eq_of_lt (by omega) (by omega)]
            omega
          · refine ⟨p - 1, by omega, ?_, ?_⟩
            · have := H3.out (p - 1) (by omega)
              rwa [show ((p - 1 : Nat) : Int) + 1 = (p : Int) from by omega] at this
            · rw [Int.tmod_eq_emod_of_nonneg (by omega), show (p : Int) + (n : Int) - 1 = ((p - 1 : Nat) : Int) + (n : Int) from by omega, Int.add_emod_right, Int.emod_eq_of_lt (by omega) (by omega)]
        obtain ⟨b0, o0, rfl, hc0⟩ := R0.out wr J.old i hi
        generalize l.getD i 0 = x at *
        rw [hv] at HT1
        have hmx : (En.aheadOf l (es.take k)).length + 1 ≤ maxLen := by unfold maxLen; omega
        have hsz := J.old.size
        have J1 := J.on ((Below.refl _ wr).alloc (Nat.le_refl _) (.cells #[.int .i64 x] 3))
        have HJ : Hid (∀ v' W', W'.ownsRow w.heap.size 3 1 v' ((En.aheadOf l (es.take k)).length + 1) ((En.aheadOf l (es.take k)).map (Value.int .i64) ++ [.int .i64 x]) → (wr.alloc (.cells #[.int .i64 x] 3)).grownBy W' u5.ownBlock → OL w (En.aheadOf l (es.take (k + 1))) v' W') := Lib.hid fun v' W' h1 h2 => by
          have := J1.app x h1 h2
          rw [HT1.out]; exact this
        have v1 : IntKind.i64.wrap ((p : Int) + (n : Int)) = (p : Int) + (n : Int) := by simp [IntKind.wrap, IntKind.bits, IntKind.signed]; omega
        have v2 : IntKind.i64.wrap ((p : Int) + (n : Int) - 1) = (p : Int) + (n : Int) - 1 := by simp [IntKind.wrap, IntKind.bits, IntKind.signed]; omega
        have v3 : (i : Int) < (n : Int) := by omega
        have v4 : ¬ (n : Int) = 0 := by omega
        generalize En.aheadOf l (es.take k) = L at *
        clear hv H1 H2 H3 HT1 J HT HE R0 R2
        go_wp2_with (at_builtin; refine wpList_app1 _ rfl _ _ 25 rfl w.heap.size 3 (.int .i64 0) 8 Try.underlying25 infoInt' rfl _ L.length (L.map (Value.int .i64)) rfl wr.heap.size (.int .i64 x) rfl J1.own (new1 _ _ _) (by simp) rfl hmx (by omega) (by simp; omega) ?_; intro v' w2 h2 h3 h4)
        have J3 := HJ.out v' w2 h2 h3
        go_roundw
        case rel => exact ⟨k + 1, by omega, by go_num, J3⟩
        case measure => simp [intOf]; omega
    · have hkm : k = m := by omega
      subst hkm
      have HO := Lib.hid J.ints
      rw [HE.out] at HO
      go_wp2
      go_ret
      exact HO.out

end Go.Proofs.Ytnmhjhfdgfdooaa
