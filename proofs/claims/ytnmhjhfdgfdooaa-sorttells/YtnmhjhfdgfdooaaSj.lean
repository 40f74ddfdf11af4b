/- sort.Ends: the walk. -/
import Derived.Test.YtnmhjhfdgfdooaaSi
namespace Go.Proofs.Ytnmhjhfdgfdooaa
open Go.RowKit

theorem growBy_alloc (w : World) (o : Obj) (r : Option Nat) : w.grownBy (w.alloc o) r := World.grownBy_alloc _ _ _

set_option maxHeartbeats 2000000 in
theorem ends_any (A : Option Addr) (n c : Nat) (l : List Int) (w : World) (hr : Row w w.heap.size A n (fun k => .int .i64 (l.getD k 0))) (hl : n = l.length) (hn : n ≤ 17592186044416) :
    Calls Try.prog 22 #[.slice A n c] w fun e w' =>
      ∃ g, e = .returned (.slice (some ⟨g, 0, none⟩) n n) ∧ w.heap.size ≤ g ∧ w'.rowIs g 3 n (places (En.endsOf l)) ∧ Below w.heap.size w w' := by
  have hmk := run_make_row' (P := Try.prog) 25 3 (.int .i64 0) 8 Try.underlying25 infoInt' rfl .i64 .i64 n (by omega) (by omega)
  have Hr := Lib.hid hr
  have Hl := Lib.hid hl
  clear hr hl
  go_enter Try.func22, Try.ntmps22
  go_wp2
  go_loopw [12] (fun s wr => ∃ k : Nat, k ≤ n ∧ s = .int .i64 k ∧ wr.rowIs w.heap.size 25 1 (fun _ => .slice A n c) ∧ wr.rowIs (w.heap.size + 1) 3 n (fun j => .int .i64 (if j < k then j else 0 : Nat)) ∧ Below w.heap.size w wr)
    (fun s _ => n - (intOf s).toNat)
  case atStart =>
    refine ⟨0, Nat.zero_le _, rfl, ?_, ?_, ?_⟩
    · exact (World.rowIs_alloc w #[.slice A n c] 25 (fun _ => .slice A n c) (fun i hi => by
        match i, hi with
        | 0, _ => rfl)).alloc _
    · have h0 := World.rowIs_made (w.alloc (.cells #[.slice A n c] 25)) (.int .i64 0) n 3
      rw [World.size_alloc] at h0
      exact h0.congr (g := fun j => .int .i64 (if j < 0 then j else 0 : Nat)) (fun i _ => by simp)
    · exact ((Below.refl _ _).alloc (Nat.le_refl _) _).alloc (by simp) _
  case round =>
    obtain ⟨k, hk, rfl, hb0, hre, hb⟩ := hrel
    clear hmk
    by_cases hlt : k < n
    · have hc2 := hre.cell hlt
      have hf := hre.frozen k
      have hr1 := (hre.set k (.int .i64 k)).congr (g := fun j => .int .i64 (if j < k + 1 then j else 0 : Nat)) (fun i _ => by
        by_cases h1 : i = k
        · subst h1; simp
        · rw [if_neg h1]; by_cases h2 : i < k
          · rw [if_pos h2, if_pos (by omega)]
          · rw [if_neg h2, if_neg (by omega)])
      have hb1 := hb.setCell (p := ⟨w.heap.size + 1, k, none⟩) (by simp) (.int .i64 k)
      have hb2 := hb0.setOther (a := ⟨w.heap.size + 1, k, none⟩) (by simp) (.int .i64 k)
      go_wp2
      go_roundw
      case rel => exact ⟨k + 1, by omega, by go_num, hb2, hr1, hb1⟩
      case measure => simp [intOf]; omega
    · have hkn : k = n := by omega
      subst hkn
      have hre' := hre.congr (g := places (List.range k)) (fun i hi => by rw [places_range _ _ hi, if_pos hi])
      have eg : ∀ args w, (callFunc 42 args).run Try.prog w = .ok (.enter 42 args) w := enters_of Try.func42 (by kernel_rfl) rfl
      have HS := Lib.hid (sortBy_any 42 _ _ k (w.heap.size + 1) k (List.range k) wr eg (cmps1 l A k c w wr Hr.out Hl.out hn hb hb0) hre' (List.Perm.refl _) hn)
      have HB := Lib.hid hb
      have HB0 := Lib.hid hb0
      have hsz : w.heap.size + 1 < wr.heap.size := hre.lt
      clear hre hre' eg hb hb0
      go_wp2_with fail
      with_reducible refine HS.out.mono ?_
      rintro e w1 ⟨g', es, r, rfl, hg', hp, hs, hR, h1, h2, h3⟩
      clear HS
      have hb5 := rowIs_growBy HB0.out h3 (by omega)
      have hold := below_growBy HB.out h3 (by omega)
      have hg1 := h2.lt
      have hsz1 := h3.size
      have HE := Lib.hid (EInv.start hold hb5 h1 h2 (by omega) hp hs hR)
      clear hb5 hold h1 h2 h3 hp hs hR HB HB0
      have HD : Hid (∀ (W : World) (k' B6 g' : Nat) (es : List Nat) (r : Nat → Nat), EInv w l A k c w1.heap.size k' B6 g' es r W → k ≤ k' → ∃ g, Ending.returned (.slice (some ⟨w.heap.size + 1, 0, none⟩) k k) = .returned (.slice (some ⟨g, 0, none⟩) k k) ∧ w.heap.size ≤ g ∧ W.rowIs g 3 k (places (En.endsOf l)) ∧ Below w.heap.size w W) := Lib.hid fun W k' B6 g' es r h hk' => by
        have hen : es = En.endsOf l := En.endsOf_eq (En.IsEnds.of_le (by rw [← Hl.out]; exact h.perm) (h.srt.imp fun h => by
          rw [En.key_all l k' _ (by rw [← Hl.out]; exact hk'), En.key_all l k' _ (by rw [← Hl.out]; exact hk')] at h; exact h))
        refine ⟨w.heap.size + 1, rfl, by omega, ?_, h.old⟩
        rw [← hen]; exact h.e
      clear hg' hg1 hsz1 hsz hk
      go_wp2
      go_loopw [6] (fun s W => ∃ (k' B6 g' : Nat) (es : List Nat) (r : Nat → Nat), s = .pointer (some ⟨B6, 0, none⟩) ∧ 1 ≤ k' ∧ k' ≤ k + k + 1 ∧ Hid (EInv w l A k c w1.heap.size k' B6 g' es r W))
        (fun s W => k + k - atPtr W s)
      case atStart => exact ⟨1, w1.heap.size + 1, g', es, r, rfl, Nat.le_refl _, by omega, HE⟩
      case round =>
        obtain ⟨k', B6, g2, es2, r2, rfl, hk1, hk2, I⟩ := hrel
        clear HE
        have c0 := I.out.b0.cell (i := 0) (by omega)
        have c5 := I.out.b5.cell (i := 0) (by omega)
        have c6 := I.out.b6.cell (i := 0) (by omega)
        have hat := atPtr_row I.out.b6
        by_cases hlt2 : k' < k
        · have hz : (k' : Int) < (k : Int) := by omega
          have eg : ∀ args w, (callFunc 44 args).run Try.prog w = .ok (.enter 44 args) w := enters_of Try.func44 (by kernel_rfl) rfl
          have HS := Lib.hid (sortBy_any 44 _ _ k (w.heap.size + 1) k es2 _ eg (cmps2 I.out Hl.out hn (by omega) (by omega)) I.out.e I.out.perm hn)
          clear eg
          go_wp2_with fail
          with_reducible refine HS.out.mono ?_
          rintro e w2 ⟨g3, es3, r3, rfl, hg3, hp3, hs3, hR3, h31, h32, h33⟩
          clear HS
          have J := EInv.step I.out h33 hg3 hp3 hs3 hR3 h31 h32
          have n5 := I.out.h5
          have n6 := I.out.h6
          have x5 := rowIs_growBy I.out.b5 h33 (by omega)
          have x6 := rowIs_growBy I.out.b6 h33 (by omega)
          have c5' := x5.cell (i := 0) (by omega)
          have f5 := x5.frozen 0
          have c6' := x6.cell (i := 0) (by omega)
          have n56 := I.out.n56
          have c6'' : (w2.setCell ⟨w1.heap.size, 0, none⟩ (.slice (some ⟨g3, 0, none⟩) k k)).cell? ⟨B6, 0, none⟩ = some (.int .i64 k') := (x6.setOther (a := ⟨w1.heap.size, 0, none⟩) (fun e => n56 e.symm) _).cell (i := 0) (by omega)
          have HJ := Lib.hid J
          have hat2 := atPtr_row J.b6
          clear J x5 x6 h31 h32 h33 hp3 hs3 hR3 I
          go_wp2
          refine ⟨⟨k' + k', w2.heap.size, g3, es3, r3, rfl, by omega, by omega, HJ⟩, ?_⟩
          have hat3 : atPtr ((w2.setCell ⟨w1.heap.size, 0, none⟩ (.slice (some ⟨g3, 0, none⟩) k k)).alloc (.cells #[.int .i64 ((k' : Int) * 2)] 3)) (.pointer (some ⟨w2.heap.size, 0, none⟩)) = k' + k' := hat2
          rw [hat3, hat]
          omega
        · have HX := HD.out _ _ _ _ _ _ I.out (by omega)
          clear HD I hat
          have hz : (k : Int) ≤ (k' : Int) := by omega
          go_wp2
          go_ret
          exact HX

end Go.Proofs.Ytnmhjhfdgfdooaa
