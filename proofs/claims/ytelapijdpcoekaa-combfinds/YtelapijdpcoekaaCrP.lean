/- CombFinds answers true for every list and all signs, and leaves both as they were. No conditions. -/
import Derived.Test.YtelapijdpcoekaaCr
import Derived.Test.YtelapijdpcoekaaOj
namespace Go.Proofs.Ytelapijdpcoekaa
open Go.ChangeShapes Go.WideShapes Go.ChangeAt Go.RowKit

theorem combFinds_any (A A2 : Option Addr) (c c2 : Nat) (l s : List Int) (w : World) (hr : IRow w w.heap.size A l) (hr2 : IRow w w.heap.size A2 s) (hcap : l.length ≤ c) (hcap2 : s.length ≤ c2) (hn : l.length ≤ 17592186043904) (hs : s.length ≤ 17592186043904) :
    Calls Try.prog 10 #[.slice A l.length c, .slice A2 s.length c2] w fun e w' => e = .returned (.bool true) ∧ Below w.heap.size w w' := by
  by_cases h : En.good l = false ∨ 4096 < l.length
  · exact combFinds_no A A2 l.length c s.length c2 w (combMake_no A c l w hr (by omega) hcap h)
  · have hg : En.good l = true := by cases hh : En.good l; exact absurd (.inl hh) h; rfl
    have hl : l.length ≤ 4096 := by omega
    by_cases hf : En.most l < 1024
    · by_cases h150 : 150 < l.length
      · exact combFinds_long A A2 c s.length c2 l w hr hcap hg hl hf h150
      · exact combFinds_short A A2 c c2 l s w hr hr2 hcap hcap2 hg hf (by omega) (by omega)
    · exact combFinds_no A A2 l.length c s.length c2 w (combMake_out A c l w hr hcap hg hl (by omega))

set_option maxRecDepth 100000 in
theorem combFinds_lifted (os : Os) (started : os.Started) (H : Type) (enc : TypeId × Value → H) :
    ReturnsInHanded {} Try.checked os 10 .any (Rows.combFindsSpec.pre6 enc Try.prog Try.f10 Rows.combFindsRow.domain false) (Rows.combFindsSpec.post enc Try.prog Try.f10 false true false false) := by
  refine returnsInHanded_of_change_sized (C := Try.checked) own started (by kernel_rfl) Try.func10
    (ChangeSpec.witness6 (enc := enc) (C := Try.checked) false ⟨#[], #[.slice none 0 0, .slice none 0 0], []⟩ 8 (by kernel_rfl) (by kernel_rfl) (by kernel_rfl) (by kernel_rfl)) ?_
  intro W base args ds gs before hval0 hW hcnd hsz _
  have hval : ∀ (j : Nat) t v, Try.f10.params[j]? = some t → args[j]? = some v → Value.okWide Try.prog W .any base t v := hval0
  have hW' := hW
  obtain ⟨p, q, hA0, hV, rfl, hfz, hnd⟩ := hW
  have hA : DataW.TrodAll enc Try.prog W 0 (fun _ => true) true Try.f10.params.toList args.toList ds p := hA0
  rw [Try.params10] at hA hval
  obtain ⟨v0, vs0, d0, ds0, p0, q0, hargs, rfl, rfl, h0, r0⟩ := trodAll_cons hA
  obtain ⟨v1, vs1, d1, ds1, p1, q1, rfl, rfl, rfl, h1, r1⟩ := trodAll_cons r0
  obtain ⟨rfl, rfl, rfl⟩ := trodAll_nil r1
  obtain rfl : args = #[v0, v1] := by cases args; simp_all
  obtain ⟨rfl, rfl⟩ := trodVars_none hV
  obtain ⟨a0, len0, cap0, rfl⟩ := okWide_slice Try.underlying25 (hval 0 25 v0 rfl rfl)
  obtain ⟨a1, len1, cap1, rfl⟩ := okWide_slice Try.underlying25 (hval 1 25 v1 rfl rfl)
  have lt0 : ∀ x ∈ p0, x.block < W.heap.size := by obtain ⟨m, hm⟩ := h0; exact DataW.trod_lt m _ _ _ hm
  have cp0 := cap_ints h0
  have lt1 : ∀ x ∈ p1, x.block < W.heap.size := by obtain ⟨m, hm⟩ := h1; exact DataW.trod_lt m _ _ _ hm
  have cp1 := cap_ints h1
  obtain ⟨l, rfl, hrow0, _, hsh0, _⟩ := open_ints h0
  obtain ⟨s, rfl, hrow1, _, hsh1, _⟩ := open_ints h1
  have hbig0 : l.length ≤ 17592186043904 := by
    rcases hsh0 with h | ⟨el, sp, rfl, hel⟩
    · omega
    · have := sized_slice hsz (j := 0) (t := 25) (e := 3) rfl rfl Try.underlying25
      have e : Try.checked.prog.bytesOf 3 = 8 := bytesIntJ
      rw [e] at this
      unfold reachBytes at this
      omega
  have hbig1 : s.length ≤ 17592186043904 := by
    rcases hsh1 with h | ⟨el, sp, rfl, hel⟩
    · omega
    · have := sized_slice hsz (j := 1) (t := 25) (e := 3) rfl rfl Try.underlying25
      have e : Try.checked.prog.bytesOf 3 = 8 := bytesIntJ
      rw [e] at this
      unfold reachBytes at this
      omega
  clear hA0 hval0
  refine (combFinds_any a0 a1 cap0 cap1 l s W hrow0 hrow1 cp0 cp1 hbig0 hbig1).mono fun e W' ⟨he, bel⟩ => ?_
  subst he
  exact ⟨_, rfl, _, _, _, [], _, [], hW', trodAll_mk1 (shut_bool Try.underlying4 _), (trodAll_cons_mk (Below.trod laidOut (by kernel_rfl) (of_decide_eq_true (by kernel_rfl)) h0 bel lt0) (trodAll_cons_mk (Below.trod laidOut (by kernel_rfl) (of_decide_eq_true (by kernel_rfl)) h1 bel lt1) trodAll_mk0)), rfl, bel.frame _, fun h => by cases h⟩

theorem combFinds_over : Rows.combFindsRow.holds Try.pinned (OpenSpec.ofChange Rows.combFindsSpec) :=
  OpenClaim.holds_of_wide 10 Try.f10 rfl rfl rfl rfl rfl rfl rfl ⟨rfl, rfl, rfl, rfl, rfl⟩ rfl rfl rfl rfl rfl (by kernel_rfl) Try.func10 (by kernel_rfl)
    (of_decide_eq_true (by kernel_rfl)) (by unfold Func.isWrapper; first | (rw [if_pos (by decide +kernel)]; kernel_rfl) | (rw [if_neg (by decide +kernel)]; exact ⟨rfl, rfl⟩))
    (fun os started H enc _ => combFinds_lifted os started H enc)

/-- the statement -/
theorem combFinds_proved : Rows.CombFindsSaid := combFinds_over
#print axioms combFinds_proved

end Go.Proofs.Ytelapijdpcoekaa
