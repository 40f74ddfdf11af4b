/- CombText answers true for every list, and leaves it as it was. No conditions. -/
import Derived.Test.YtelapijdpcoekabCt
import Derived.Test.YtelapijdpcoekabOj
namespace Go.Proofs.Ytelapijdpcoekab
open Go.ChangeShapes Go.WideShapes Go.ChangeAt Go.RowKit

theorem combText_any (A : Option Addr) (c : Nat) (l : List Int) (w : World) (hr : IRow w w.heap.size A l) (hcap : l.length ≤ c) (hn : l.length ≤ 17592186043904) :
    Calls Try.prog 3 #[.slice A l.length c] w fun e w' => e = .returned (.bool true) ∧ Below w.heap.size w w' := by
  by_cases h : En.good l = false ∨ 4096 < l.length
  · exact combText_no A l.length c w (combMake_no A c l w hr (by omega) hcap h)
  · have hg : En.good l = true := by cases hh : En.good l; exact absurd (.inl hh) h; rfl
    have hl : l.length ≤ 4096 := by omega
    by_cases hf : En.most l < 1024
    · by_cases h150 : 150 < l.length
      · exact combText_long A c l w hr hcap hg hl hf h150
      · exact combText_short A c l w hr hcap hg hf (by omega)
    · exact combText_no A l.length c w (combMake_out A c l w hr hcap hg hl (by omega))

set_option maxRecDepth 100000 in
theorem combText_lifted (os : Os) (started : os.Started) (H : Type) (enc : TypeId × Value → H) :
    ReturnsInHanded {} Try.checked os 3 .any (Rows.combTextSpec.pre6 enc Try.prog Try.f3 Rows.combTextRow.domain false) (Rows.combTextSpec.post enc Try.prog Try.f3 false true false false) := by
  refine returnsInHanded_of_change_sized (C := Try.checked) own started (by kernel_rfl) Try.func3
    (ChangeSpec.witness6 (enc := enc) (C := Try.checked) false ⟨#[], #[.slice none 0 0], []⟩ 8 (by kernel_rfl) (by kernel_rfl) (by kernel_rfl) (by kernel_rfl)) ?_
  intro W base args ds gs before hval0 hW hcnd hsz _
  have hval : ∀ (j : Nat) t v, Try.f3.params[j]? = some t → args[j]? = some v → Value.okWide Try.prog W .any base t v := hval0
  have hW' := hW
  obtain ⟨p, q, hA0, hV, rfl, hfz, hnd⟩ := hW
  have hA : DataW.TrodAll enc Try.prog W 0 (fun _ => true) true Try.f3.params.toList args.toList ds p := hA0
  rw [Try.params3] at hA hval
  obtain ⟨v0, vs0, d0, ds0, p0, q0, hargs, rfl, rfl, h0, r0⟩ := trodAll_cons hA
  obtain ⟨rfl, rfl, rfl⟩ := trodAll_nil r0
  obtain rfl : args = #[v0] := by cases args; simp_all
  obtain ⟨rfl, rfl⟩ := trodVars_none hV
  obtain ⟨a0, len0, cap0, rfl⟩ := okWide_slice Try.underlying22 (hval 0 22 v0 rfl rfl)
  have lt0 : ∀ x ∈ p0, x.block < W.heap.size := by obtain ⟨m, hm⟩ := h0; exact DataW.trod_lt m _ _ _ hm
  have cp0 := cap_ints h0
  obtain ⟨l, rfl, hrow0, _, hsh0, _⟩ := open_ints h0
  have hbig0 : l.length ≤ 17592186043904 := by
    rcases hsh0 with h | ⟨el, sp, rfl, hel⟩
    · omega
    · have := sized_slice hsz (j := 0) (t := 22) (e := 3) rfl rfl Try.underlying22
      have e : Try.checked.prog.bytesOf 3 = 8 := bytesIntJ
      rw [e] at this
      unfold reachBytes at this
      omega
  clear hA0 hval0
  refine (combText_any a0 cap0 l W hrow0 cp0 hbig0).mono fun e W' ⟨he, bel⟩ => ?_
  subst he
  exact ⟨_, rfl, _, _, _, [], _, [], hW', trodAll_mk1 (shut_bool Try.underlying4 _), (trodAll_cons_mk (Below.trod laidOut (by kernel_rfl) (of_decide_eq_true (by kernel_rfl)) h0 bel lt0) trodAll_mk0), rfl, bel.frame _, fun h => by cases h⟩

theorem combText_over : Rows.combTextRow.holds Try.pinned (OpenSpec.ofChange Rows.combTextSpec) :=
  OpenClaim.holds_of_wide 3 Try.f3 rfl rfl rfl rfl rfl rfl rfl ⟨rfl, rfl, rfl, rfl, rfl⟩ rfl rfl rfl rfl rfl (by kernel_rfl) Try.func3 (by kernel_rfl)
    (of_decide_eq_true (by kernel_rfl)) (by unfold Func.isWrapper; first | (rw [if_pos (by decide +kernel)]; kernel_rfl) | (rw [if_neg (by decide +kernel)]; exact ⟨rfl, rfl⟩))
    (fun os started H enc _ => combText_lifted os started H enc)

/-- the statement -/
theorem combText_proved : Rows.CombTextSaid := combText_over
#print axioms combText_proved

end Go.Proofs.Ytelapijdpcoekab
