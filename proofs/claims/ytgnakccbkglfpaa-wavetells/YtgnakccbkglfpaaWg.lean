/- Good of a wave that Make has made; At. -/
import Derived.Test.YtgnakccbkglfpaaWf
import Derived.Deep.DeepCutAuto
import Derived.Deep.CutRange
import Derived.Deep.RegionLaw
namespace Go.Proofs.Ytgnakccbkglfpaa
open Go.RowKit
attribute [local irreducible] Bt.pop Bt.popF

/-- the cells of the levels, told by functions -/
theorem Wave.rows {w : World} {A : Option Addr} {d : Nat} {l : List Nat} (h : Wave w A d l) : ∃ (a1 a2 : Nat → Option Addr) (k1 k2 : Nat → Nat),
    Row3 w w.heap.size A d (fun _ => .int .i64 l.length) (fun k => .slice (a1 k) (l.length / 64 + 1) (k1 k)) (fun k => .slice (a2 k) (l.length / 64 + 1) (k2 k)) ∧
    ∀ k, k < d → IsBits w w.heap.size (a1 k) (a2 k) (Wv.lbits (d - 1 - k) (2 ^ k) l) := by
  obtain ⟨b, o, rfl, hlt, hc⟩ := h.level
  have hex : ∀ k, ∃ t : Option Addr × Option Addr × Nat × Nat, k < d → w.cell? ⟨b, o + k * 3, none⟩ = some (.int .i64 l.length) ∧ w.cell? ⟨b, o + k * 3 + 1, none⟩ = some (.slice t.1 (l.length / 64 + 1) t.2.2.1) ∧
      w.cell? ⟨b, o + k * 3 + 2, none⟩ = some (.slice t.2.1 (l.length / 64 + 1) t.2.2.2) ∧ IsBits w w.heap.size t.1 t.2.1 (Wv.lbits (d - 1 - k) (2 ^ k) l) := fun k => by
    by_cases hk : k < d
    · obtain ⟨⟨A1, c1, A2, c2, h1, h2, h3, h4⟩, hl⟩ := hc k hk
      rw [hl] at h1 h2 h3
      exact ⟨(A1, A2, c1, c2), fun _ => ⟨h1, h2, h3, h4⟩⟩
    · exact ⟨(none, none, 0, 0), fun h => absurd h hk⟩
  obtain ⟨t, ht⟩ := Classical.axiomOfChoice hex
  exact ⟨fun k => (t k).1, fun k => (t k).2.1, fun k => (t k).2.2.1, fun k => (t k).2.2.2, fun _ => ⟨b, o, rfl, hlt, fun k hk => ⟨(ht k hk).1, (ht k hk).2.1, (ht k hk).2.2.1⟩⟩, fun k hk => (ht k hk).2.2.2⟩

theorem shapeOk_wave (d : Nat) (N : Int) (h1 : 1 ≤ d) (h2 : d ≤ 16) : shapeOk d d N (fun _ => N) = true := by
  unfold shapeOk
  rw [deepOk_yes d (by omega) (by omega), anyQ_false _ _ (fun _ _ => by simp)]
  simp
theorem isShaped_wave {w : World} {A : Option Addr} {d : Nat} {l : List Nat} (h : Wave w A d l) (c : Nat) :
    Calls Try.prog 72 #[.agg #[.int .i64 l.length, .int .i64 d, .slice A d c]] w fun e w' => e = .returned (.bool true) ∧ Below w.heap.size w w' := by
  obtain ⟨a1, a2, k1, k2, hr, _⟩ := h.rows
  have h2 := h.d16
  have := isShaped_any l.length d A d c (fun _ => l.length) a1 a2 (fun _ => l.length / 64 + 1) k1 (fun _ => l.length / 64 + 1) k2 w hr (by omega)
  rwa [shapeOk_wave d _ h.d1 h.d16] at this

set_option maxHeartbeats 1000000 in
theorem good_wave {w : World} {A : Option Addr} {d : Nat} {l : List Nat} (h : Wave w A d l) (c : Nat) :
    Calls Try.prog 40 #[.agg #[.int .i64 l.length, .int .i64 d, .slice A d c]] w fun e w' => e = .returned (.bool true) ∧ Below w.heap.size w w' := by
  have hb0 : Below w.heap.size w (w.alloc (.cells #[.int .i64 l.length, .int .i64 d, .slice A d c] 45)) := (Below.refl _ _).alloc (Nat.le_refl _) _
  have h0 := h.on hb0
  have HS := Lib.hid (isShaped_wave h0 c)
  have h16 := h.d16
  have hsm := h.small
  have HC : Hid (∀ W, Below (w.alloc (.cells #[.int .i64 l.length, .int .i64 d, .slice A d c] 45)).heap.size (w.alloc (.cells #[.int .i64 l.length, .int .i64 d, .slice A d c] 45)) W → Calls Try.prog 73 #[.slice A d c, .func (.func 74) #[] #[]] W fun e w' => e = .returned (.bool false) ∧ Below W.heap.size W w') := Lib.hid fun W hW => by
    have hw := h0.on hW
    obtain ⟨a1, a2, k1, k2, hr, hI⟩ := hw.rows
    have hl := fun k hk => (hw.level.choose_spec.choose_spec.2.2 k hk).2
    have := containsBits_any 74 #[] A d c (fun _ => .int .i64 l.length) (fun k => .slice (a1 k) (l.length / 64 + 1) (k1 k)) (fun k => .slice (a2 k) (l.length / 64 + 1) (k2 k)) (fun _ => false) W (enters_of Try.func74 (by kernel_rfl) rfl) hr (fun _ => rfl) (fun _ => rfl) (fun _ => rfl)
      (fun W' hW' k hk => by
        have := isNotGood_made (Wv.lbits (d - 1 - k) (2 ^ k) l) (a1 k) (a2 k) (k1 k) (k2 k) W' (((hI k hk).below hW').more hW'.size) (by rw [hl k hk]; exact hsm)
        rw [hl k hk] at this
        exact this) (by omega)
    rwa [anyQ_false _ _ (fun _ _ => rfl)] at this
  clear h h0
  generalize (l.length : Int) = N at *
  go_enter Try.func40, Try.ntmps40
  go_wp2_with fail
  with_reducible refine HS.out.mono ?_
  rintro e w1 ⟨rfl, hb1⟩
  have c2 : w1.cell? ⟨w.heap.size, 2, none⟩ = some (.slice A d c) := (hb1.cell (p := ⟨w.heap.size, 2, none⟩) (by simp)).trans (by simp)
  have HC1 := Lib.hid (HC.out w1 hb1)
  have hb2 := hb0.trans (hb1.mono (by simp))
  clear HC HS hb0 hb1
  go_wp2_with fail
  with_reducible refine HC1.out.mono ?_
  rintro e w2 ⟨rfl, hb3⟩
  have hb4 := hb2.trans (hb3.mono hb2.size)
  go_wp2
  go_ret
  exact ⟨rfl, hb4⟩

end Go.Proofs.Ytgnakccbkglfpaa
