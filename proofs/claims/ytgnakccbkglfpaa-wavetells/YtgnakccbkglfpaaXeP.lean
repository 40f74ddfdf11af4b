/- WaveTells answers true for every list of numbers, all depths, numbers and places, and leaves the list as it was. No conditions. -/
import Derived.Test.YtgnakccbkglfpaaXe
import Derived.Test.YtgnakccbkglfpaaOi
import Derived.SizedLaws
namespace Go.Proofs.Ytgnakccbkglfpaa
open Go.ChangeShapes Go.WideShapes Go.ChangeAt Go.RowKit

theorem waveTells_any (A : Option Addr) (c : Nat) (l : List Int) (d x i k : Int) (w : World) (hr : IRow w w.heap.size A l) (hi1 : -9223372036854775808 ≤ i) (hi2 : i ≤ 9223372036854775807) (hk1 : -9223372036854775808 ≤ k) (hk2 : k ≤ 9223372036854775807) :
    Calls Try.prog 8 #[.slice A l.length c, .int .i64 d, .int .i64 x, .int .i64 i, .int .i64 k] w fun e w' => e = .returned (.bool true) ∧ Below w.heap.size w w' := by
  by_cases hl : 200 < l.length
  · exact waveTells_long A l.length c d x i k w hl
  · cases hd : deepOk d
    · exact waveTells_no A c l d x i k w hr (by omega) (by unfold fitsI; rw [hd]; rfl) (fun W A' c' _ => make_deep A' l.length c' d W hd)
    · have hd2 : 1 ≤ d ∧ d ≤ 16 := by unfold deepOk at hd; simpa using hd
      obtain ⟨m, rfl⟩ := Int.eq_ofNat_of_zero_le (show 0 ≤ d by omega)
      have hw := wrap_pow m (by omega)
      cases hi : insB (wrap64 (2 ^ m)) l
      · refine waveTells_no A c l m x i k w hr (by omega) ?_ (fun W A' c' h => make_out A' c' l m W h (by omega) (by omega) (by omega) hi)
        unfold fitsI
        rw [Int.toNat_natCast, ← hw, hi, Bool.and_false]
      · have hF : fitsI l m = true := by
          unfold fitsI
          rw [Int.toNat_natCast, ← hw, hi, hd]; rfl
        by_cases h11 : 11 < m
        · exact waveTells_deep A c l m x i k w hr (by omega) (by omega) hF
        · rw [hw, show (2 : Int) ^ m = ((2 ^ m : Nat) : Int) from by simp] at hi
          obtain ⟨L, rfl, hf⟩ := insB_yes (2 ^ m) l hi
          rw [List.length_map] at hl ⊢
          exact waveTells_yes A c L m x i k w (NRow.of_ints hr) (by omega) (by omega) (by omega) hf hi1 hi2 hk1 hk2

set_option maxRecDepth 100000 in
theorem waveTells_lifted (os : Os) (started : os.Started) (H : Type) (enc : TypeId × Value → H) :
    ReturnsInHanded {} Try.checked os 8 .any (Rows.waveTellsSpec.pre6 enc Try.prog Try.f8 Rows.waveTellsRow.domain false) (Rows.waveTellsSpec.post enc Try.prog Try.f8 false true false false) := by
  refine returnsInHanded_of_change (C := Try.checked) own started (by kernel_rfl) Try.func8
    (ChangeSpec.witness6 (enc := enc) (C := Try.checked) false ⟨#[], #[.slice none 0 0, .int .i64 0, .int .i64 0, .int .i64 0, .int .i64 0], []⟩ 8 (by kernel_rfl) (by kernel_rfl) (by kernel_rfl) (by kernel_rfl)) ?_
  intro W base args ds gs before hval0 hW hcnd _
  have hval : ∀ (j : Nat) t v, Try.f8.params[j]? = some t → args[j]? = some v → Value.okWide Try.prog W .any base t v := hval0
  have hW' := hW
  obtain ⟨p, q, hA0, hV, rfl, hfz, hnd⟩ := hW
  have hA : DataW.TrodAll enc Try.prog W 0 (fun _ => true) true Try.f8.params.toList args.toList ds p := hA0
  rw [Try.params8] at hA hval
  obtain ⟨v0, vs0, d0, ds0, p0, q0, hargs, rfl, rfl, h0, r0⟩ := trodAll_cons hA
  obtain ⟨v1, vs1, d1, ds1, p1, q1, rfl, rfl, rfl, h1, r1⟩ := trodAll_cons r0
  obtain ⟨v2, vs2, d2, ds2, p2, q2, rfl, rfl, rfl, h2, r2⟩ := trodAll_cons r1
  obtain ⟨v3, vs3, d3, ds3, p3, q3, rfl, rfl, rfl, h3, r3⟩ := trodAll_cons r2
  obtain ⟨v4, vs4, d4, ds4, p4, q4, rfl, rfl, rfl, h4, r4⟩ := trodAll_cons r3
  obtain ⟨rfl, rfl, rfl⟩ := trodAll_nil r4
  obtain rfl : args = #[v0, v1, v2, v3, v4] := by cases args; simp_all
  obtain ⟨rfl, rfl⟩ := trodVars_none hV
  obtain ⟨a0, len0, cap0, rfl⟩ := okWide_slice Try.underlying25 (hval 0 25 v0 rfl rfl)
  have lt0 : ∀ x ∈ p0, x.block < W.heap.size := by obtain ⟨m, hm⟩ := h0; exact DataW.trod_lt m _ _ _ hm
  obtain ⟨l, rfl, hrow, _, _, _⟩ := open_ints h0
  obtain ⟨x1, rfl, rfl, rfl, w1⟩ := open_int Try.underlying3 (hval 1 3 v1 rfl rfl) h1
  obtain ⟨x2, rfl, rfl, rfl, w2⟩ := open_int Try.underlying3 (hval 2 3 v2 rfl rfl) h2
  obtain ⟨x3, rfl, rfl, rfl, w3⟩ := open_int Try.underlying3 (hval 3 3 v3 rfl rfl) h3
  obtain ⟨x4, rfl, rfl, rfl, w4⟩ := open_int Try.underlying3 (hval 4 3 v4 rfl rfl) h4
  have c3 := bounds_i64 w3
  have c4 := bounds_i64 w4
  clear hA0 hval0
  refine (waveTells_any a0 cap0 l x1 x2 x3 x4 W hrow c3.1 c3.2 c4.1 c4.2).mono fun e W' ⟨he, bel⟩ => ?_
  subst he
  exact ⟨_, rfl, _, _, _, [], _, [], hW', trodAll_mk1 (shut_bool Try.underlying4 _), (trodAll_cons_mk (Below.trod laidOut (by kernel_rfl) (of_decide_eq_true (by kernel_rfl)) h0 bel lt0) (trodAll_cons_mk (shut_int Try.underlying3 w1) (trodAll_cons_mk (shut_int Try.underlying3 w2) (trodAll_cons_mk (shut_int Try.underlying3 w3) (trodAll_cons_mk (shut_int Try.underlying3 w4) trodAll_mk0))))), rfl, bel.frame _, fun h => by cases h⟩

theorem waveTells_over : Rows.waveTellsRow.holds Try.pinned (OpenSpec.ofChange Rows.waveTellsSpec) :=
  OpenClaim.holds_of_wide 8 Try.f8 rfl rfl rfl rfl rfl rfl rfl ⟨rfl, rfl, rfl, rfl, rfl⟩ rfl rfl rfl rfl rfl (by kernel_rfl) Try.func8 (by kernel_rfl)
    (of_decide_eq_true (by kernel_rfl)) (by unfold Func.isWrapper; first | (rw [if_pos (by decide +kernel)]; kernel_rfl) | (rw [if_neg (by decide +kernel)]; exact ⟨rfl, rfl⟩))
    (fun os started H enc _ => waveTells_lifted os started H enc)

/-- the statement -/
theorem waveTells_proved : Rows.WaveTellsSaid := waveTells_over
#print axioms waveTells_proved

end Go.Proofs.Ytgnakccbkglfpaa
