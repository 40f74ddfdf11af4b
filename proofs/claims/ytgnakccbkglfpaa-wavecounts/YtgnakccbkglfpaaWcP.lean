/- WaveCounts answers true for every list of numbers and all depths and places, and leaves the list as it was. No conditions. -/
import Derived.Test.YtgnakccbkglfpaaWx
import Derived.Test.YtgnakccbkglfpaaOi
import Derived.SizedLaws
namespace Go.Proofs.Ytgnakccbkglfpaa
open Go.ChangeShapes Go.WideShapes Go.ChangeAt Go.RowKit

theorem waveCounts_any (A : Option Addr) (c : Nat) (l : List Int) (d fr tu : Int) (w : World) (hr : IRow w w.heap.size A l) (hs : l.length ≤ 17592186043904) :
    Calls Try.prog 9 #[.slice A l.length c, .int .i64 d, .int .i64 fr, .int .i64 tu] w fun e w' => e = .returned (.bool true) ∧ Below w.heap.size w w' := by
  cases hd : deepOk d
  · exact waveCounts_no A l.length c d fr tu w (make_deep A l.length c d w hd)
  · have hd2 : 1 ≤ d ∧ d ≤ 16 := by unfold deepOk at hd; simpa using hd
    obtain ⟨k, rfl⟩ := Int.eq_ofNat_of_zero_le (show 0 ≤ d by omega)
    cases hi : insB (wrap64 (2 ^ k)) l
    · exact waveCounts_no A l.length c k fr tu w (make_out A c l k w hr (by omega) (by omega) (by omega) hi)
    · rw [wrap_pow k (by omega), show (2 : Int) ^ k = ((2 ^ k : Nat) : Int) from by simp] at hi
      obtain ⟨m, rfl, hf⟩ := insB_yes (2 ^ k) l hi
      rw [List.length_map] at hs ⊢
      by_cases hl : 200 < m.length
      · exact waveCounts_long A c m k fr tu w (NRow.of_ints hr) (by omega) (by omega) hf hs hl
      · exact waveCounts_short A c m k fr tu w (NRow.of_ints hr) (by omega) (by omega) hf (by omega)

theorem bytesIntC : Try.prog.bytesOf 3 = 8 := by kernel_rfl

set_option maxRecDepth 100000 in
theorem waveCounts_lifted (os : Os) (started : os.Started) (H : Type) (enc : TypeId × Value → H) :
    ReturnsInHanded {} Try.checked os 9 .any (Rows.waveCountsSpec.pre6 enc Try.prog Try.f9 Rows.waveCountsRow.domain false) (Rows.waveCountsSpec.post enc Try.prog Try.f9 false true false false) := by
  refine returnsInHanded_of_change_sized (C := Try.checked) own started (by kernel_rfl) Try.func9
    (ChangeSpec.witness6 (enc := enc) (C := Try.checked) false ⟨#[], #[.slice none 0 0, .int .i64 0, .int .i64 0, .int .i64 0], []⟩ 8 (by kernel_rfl) (by kernel_rfl) (by kernel_rfl) (by kernel_rfl)) ?_
  intro W base args ds gs before hval0 hW hcnd hsz _
  have hval : ∀ (j : Nat) t v, Try.f9.params[j]? = some t → args[j]? = some v → Value.okWide Try.prog W .any base t v := hval0
  have hW' := hW
  obtain ⟨p, q, hA0, hV, rfl, hfz, hnd⟩ := hW
  have hA : DataW.TrodAll enc Try.prog W 0 (fun _ => true) true Try.f9.params.toList args.toList ds p := hA0
  rw [Try.params9] at hA hval
  obtain ⟨v0, vs0, d0, ds0, p0, q0, hargs, rfl, rfl, h0, r0⟩ := trodAll_cons hA
  obtain ⟨v1, vs1, d1, ds1, p1, q1, rfl, rfl, rfl, h1, r1⟩ := trodAll_cons r0
  obtain ⟨v2, vs2, d2, ds2, p2, q2, rfl, rfl, rfl, h2, r2⟩ := trodAll_cons r1
  obtain ⟨v3, vs3, d3, ds3, p3, q3, rfl, rfl, rfl, h3, r3⟩ := trodAll_cons r2
  obtain ⟨rfl, rfl, rfl⟩ := trodAll_nil r3
  obtain rfl : args = #[v0, v1, v2, v3] := by cases args; simp_all
  obtain ⟨rfl, rfl⟩ := trodVars_none hV
  obtain ⟨a0, len0, cap0, rfl⟩ := okWide_slice Try.underlying25 (hval 0 25 v0 rfl rfl)
  have lt0 : ∀ x ∈ p0, x.block < W.heap.size := by obtain ⟨m, hm⟩ := h0; exact DataW.trod_lt m _ _ _ hm
  obtain ⟨l, rfl, hrow, _, hsh, _⟩ := open_ints h0
  obtain ⟨x1, rfl, rfl, rfl, w1⟩ := open_int Try.underlying3 (hval 1 3 v1 rfl rfl) h1
  obtain ⟨x2, rfl, rfl, rfl, w2⟩ := open_int Try.underlying3 (hval 2 3 v2 rfl rfl) h2
  obtain ⟨x3, rfl, rfl, rfl, w3⟩ := open_int Try.underlying3 (hval 3 3 v3 rfl rfl) h3
  have hbig : l.length ≤ 17592186043904 := by
    rcases hsh with h | ⟨el, sp, rfl, hel⟩
    · omega
    · have := sized_slice hsz (j := 0) (t := 25) (e := 3) rfl rfl Try.underlying25
      have e : Try.checked.prog.bytesOf 3 = 8 := bytesIntC
      rw [e] at this
      unfold reachBytes at this
      omega
  clear hA0 hval0
  refine (waveCounts_any a0 cap0 l x1 x2 x3 W hrow hbig).mono fun e W' ⟨he, bel⟩ => ?_
  subst he
  exact ⟨_, rfl, _, _, _, [], _, [], hW', trodAll_mk1 (shut_bool Try.underlying4 _), (trodAll_cons_mk (Below.trod laidOut (by kernel_rfl) (of_decide_eq_true (by kernel_rfl)) h0 bel lt0) (trodAll_cons_mk (shut_int Try.underlying3 w1) (trodAll_cons_mk (shut_int Try.underlying3 w2) (trodAll_cons_mk (shut_int Try.underlying3 w3) trodAll_mk0)))), rfl, bel.frame _, fun h => by cases h⟩

theorem waveCounts_over : Rows.waveCountsRow.holds Try.pinned (OpenSpec.ofChange Rows.waveCountsSpec) :=
  OpenClaim.holds_of_wide 9 Try.f9 rfl rfl rfl rfl rfl rfl rfl ⟨rfl, rfl, rfl, rfl, rfl⟩ rfl rfl rfl rfl rfl (by kernel_rfl) Try.func9 (by kernel_rfl)
    (of_decide_eq_true (by kernel_rfl)) (by unfold Func.isWrapper; first | (rw [if_pos (by decide +kernel)]; kernel_rfl) | (rw [if_neg (by decide +kernel)]; exact ⟨rfl, rfl⟩))
    (fun os started H enc _ => waveCounts_lifted os started H enc)

/-- the statement -/
theorem waveCounts_proved : Rows.WaveCountsSaid := waveCounts_over
#print axioms waveCounts_proved

end Go.Proofs.Ytgnakccbkglfpaa
