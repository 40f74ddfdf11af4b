/- Where a group's halves stand, told by the list of numbers. -/
import Derived.Test.YtgnakccbkglfpaaWc
namespace Go.Proofs.Ytgnakccbkglfpaa
open Go.RowKit
attribute [local irreducible] Bt.pop Bt.popF

theorem near_of (N : Nat) (i : Nat) (h : i ≤ N) : near N i = i := by unfold near; omega
theorem oI_near (bs : List Bool) (X : Int) : oI bs X = (Bt.ones (bs.take (near bs.length X)) : Nat) := by
  unfold oI
  congr 2
  rw [List.take_eq_take_iff]
  unfold near; omega
theorem nI_near (bs : List Bool) (X : Int) : nI bs X = (near bs.length X : Int) - (Bt.ones (bs.take (near bs.length X)) : Nat) := by
  have := oI_near bs X
  unfold oI at this
  unfold nI
  rw [this]
theorem ones_take_le (bs : List Bool) (k : Nat) : Bt.ones (bs.take k) ≤ bs.length := by
  have := Bt.ones_le (bs.take k); rw [List.length_take] at this; omega
theorem w64 (x : Int) (h1 : -9223372036854775808 ≤ x) (h2 : x ≤ 9223372036854775807) : IntKind.i64.wrap x = x := by rw [IntKind.wrap_i64]; omega

theorem st_le (s p m : Nat) (l : List Nat) (h : p < m) (hl : (Wv.lbits s m l).length = l.length) : Wv.st (s + 1) p l + Wv.cnt (s + 1) p l ≤ l.length := by
  have h1 := Wv.st_mono (s + 1) p m l h
  have h2 : Wv.st (s + 1) m l = l.length := by rw [← hl]; unfold Wv.lbits Wv.st; rw [List.length_map]
  omega

section
variable (s p m i : Nat) (l : List Nat) (A1 A2 : Option Addr) (c1 c2 mp : Nat) (w : World)

theorem having_lev (one : Bool) (T first : Int) (N : Nat) (hI : IsBits w w.heap.size A1 A2 (Wv.lbits s m l)) (hN : N = l.length) (hl : (Wv.lbits s m l).length = l.length) (hm : mp = l.length / 64 + 1) (hs : l.length ≤ 17592186044416) (hp : p < m)
    (hX : near l.length (IntKind.i64.wrap ((Wv.st (s + 1) p l : Nat) + first)) = Wv.st (s + 1) p l + Wv.cnt (s + 1) p (l.take i)) :
    Calls Try.prog 77 #[.agg #[.int .i64 (Wv.st (s + 1) p l : Nat), .int .i64 T], .agg #[.int .i64 N, .slice A1 mp c1, .slice A2 mp c2], .bool one, .int .i64 first] w fun e w' =>
      e = .returned (.int .i64 (Wv.cnt s (Wv.kid p one) (l.take i) : Nat)) ∧ Below w.heap.size w w' := by
  have hle := st_le s p m l hp hl
  have hct := Wv.cnt_take_le (s + 1) p i l
  have h2 := Wv.cnt_two s p (l.take i)
  have hon := Wv.ones_lev s p m i l hp
  have hnF : near l.length (Wv.st (s + 1) p l : Nat) = Wv.st (s + 1) p l := near_of _ _ (by omega)
  have e1 := oI_near (Wv.lbits s m l) (IntKind.i64.wrap ((Wv.st (s + 1) p l : Nat) + first))
  have e2 := oI_near (Wv.lbits s m l) (Wv.st (s + 1) p l : Nat)
  have e3 := nI_near (Wv.lbits s m l) (IntKind.i64.wrap ((Wv.st (s + 1) p l : Nat) + first))
  have e4 := nI_near (Wv.lbits s m l) (Wv.st (s + 1) p l : Nat)
  rw [hl, hX, hon] at e1 e3
  rw [hl, hnF] at e2 e4
  subst hN
  have q1 := ones_take_le (Wv.lbits s m l) (Wv.st (s + 1) p l)
  rw [hl] at q1
  rw [← hl]
  rw [← hl] at hm
  cases one
  · refine having_nought _ T first _ _ (Wv.lbits s m l) A1 A2 c1 c2 mp w hI hm (by omega) rfl ?_
    rw [e3, e4, w64 _ (by omega) (by omega)]
    omega
  · refine having_one _ T first _ _ (Wv.lbits s m l) A1 A2 c1 c2 mp w hI hm (by omega) rfl ?_
    rw [e1, e2, w64 _ (by omega) (by omega)]
    omega

theorem half_lev (one : Bool) (N : Nat) (hI : IsBits w w.heap.size A1 A2 (Wv.lbits s m l)) (hN : N = l.length) (hl : (Wv.lbits s m l).length = l.length) (hm : mp = l.length / 64 + 1) (hs : l.length ≤ 17592186044416) (hp : p < m) :
    Calls Try.prog 76 #[.agg #[.int .i64 (Wv.st (s + 1) p l : Nat), .int .i64 (Wv.st (s + 1) (p + 1) l : Nat)], .agg #[.int .i64 N, .slice A1 mp c1, .slice A2 mp c2], .bool one] w fun e w' =>
      e = .returned (.agg #[.int .i64 (Wv.st s (Wv.kid p one) l : Nat), .int .i64 (Wv.st s (Wv.kid p one + 1) l : Nat)]) ∧ Below w.heap.size w w' := by
  have hle := st_le s p m l hp hl
  have hsu := Wv.st_succ (s + 1) p l
  have h2 := Wv.cnt_two s p l
  have hon := Wv.ones_lev s p m l.length l hp
  rw [List.take_length] at hon
  have hnF : near l.length (Wv.st (s + 1) p l : Nat) = Wv.st (s + 1) p l := near_of _ _ (by omega)
  have hnT : near l.length ((Wv.st (s + 1) p l + Wv.cnt (s + 1) p l : Nat) : Int) = Wv.st (s + 1) p l + Wv.cnt (s + 1) p l := near_of _ _ (by omega)
  have e3 := nI_near (Wv.lbits s m l) ((Wv.st (s + 1) p l + Wv.cnt (s + 1) p l : Nat) : Int)
  have e4 := nI_near (Wv.lbits s m l) (Wv.st (s + 1) p l : Nat)
  rw [hl, hnT, hon] at e3
  rw [hl, hnF] at e4
  have q1 := ones_take_le (Wv.lbits s m l) (Wv.st (s + 1) p l)
  have k0 := Wv.st_kid0 s p l
  have k1 := Wv.st_kid1 s p l
  have k2 := Wv.st_kid2 s p l
  have k3 := Wv.st_kid01 s p l
  rw [hl] at q1
  subst hN
  rw [← hl]
  rw [← hl] at hm
  refine (half_any (Wv.st (s + 1) p l : Nat) (Wv.st (s + 1) (p + 1) l : Nat) ((Wv.st (s + 1) p l + Wv.cnt (s + 1) p l : Nat) : Int) (Wv.cnt s (Wv.kid p false) l : Nat) (Wv.st (s + 1) p l + Wv.cnt s (Wv.kid p false) l : Nat) one (Wv.lbits s m l) A1 A2 c1 c2 mp w hI hm (by omega) ?_ ?_ ?_).mono ?_
  · rw [w64 ((Wv.st (s + 1) (p + 1) l : Nat) - _) (by omega) (by omega), w64 _ (by omega) (by omega)]
    omega
  · rw [e3, e4, w64 _ (by omega) (by omega)]
    omega
  · rw [w64 _ (by omega) (by omega)]
    omega
  · rintro e w' ⟨rfl, hb⟩
    refine ⟨?_, hb⟩
    cases one
    · rw [k0, k3]; rfl
    · rw [k1, k2]; rfl
end

end Go.Proofs.Ytgnakccbkglfpaa
