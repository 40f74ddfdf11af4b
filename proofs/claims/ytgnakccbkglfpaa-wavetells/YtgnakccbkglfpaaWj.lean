/- wave.kinds: the closure that asks one half, and the function that calls itself. -/
import Derived.Test.YtgnakccbkglfpaaWi
namespace Go.Proofs.Ytgnakccbkglfpaa
open Go.RowKit
attribute [local irreducible] Bt.pop Bt.popF

theorem infoInt4 : (Try.prog.info? 3).map (fun i => (i.zero, i.size, i.bytes)) = some (some (.int .i64 0), 1, 8) := by kernel_rfl

/-- numbers as they are handed back -/
def up (L : List Nat) : List Int := L.map fun (n : Nat) => (n : Int)
theorem up_append (a b : List Nat) : up (a ++ b) = up a ++ up b := by unfold up; rw [List.map_append]
theorem up_len (L : List Nat) : (up L).length = L.length := by unfold up; rw [List.length_map]

theorem ks_len (l : List Nat) (i j s : Nat) : ∀ p, (Wv.ks l i j s p).length ≤ 2 ^ s := by
  induction s with
  | zero => intro p; unfold Wv.ks; split <;> simp
  | succ s ih =>
    intro p
    have h1 := ih (Wv.kid p false)
    have h2 := ih (Wv.kid p true)
    unfold Wv.ks
    rw [List.length_append, Nat.pow_succ]; omega

/-- a list in the making, said of an earlier world -/
theorem OL.since {w0 w : World} {L : List Int} {v : Value} {W : World} (h : OL w L v W) (hb : Below w0.heap.size w0 w) : OL w0 L v W := ⟨own_base h.own hb.size, hb.trans (h.old.mono hb.size)⟩
theorem OL.one (w W : World) (x : Int) (h : Below w.heap.size w W) : OL w [x] (.slice (some ⟨W.heap.size, 0, none⟩) 1 1) (W.alloc (.cells #[.int .i64 x] 3)) := by
  exact ⟨World.ownsRow_lit (e := 3) (size := 1) W #[.int .i64 x] 1 h.size (by unfold maxLen; omega) rfl, h.alloc h.size _⟩

/-- from and tu stand for the places i and j in the group p -/
structure Rep (l : List Nat) (s p i j : Nat) (fr tu : Int) : Prop where
  a : near l.length (IntKind.i64.wrap ((Wv.st s p l : Nat) + fr)) = Wv.st s p l + Wv.cnt s p (l.take i)
  b : near l.length (IntKind.i64.wrap ((Wv.st s p l : Nat) + tu)) = Wv.st s p l + Wv.cnt s p (l.take j)
  no : tu ≤ fr → Wv.cnt s p (l.take j) ≤ Wv.cnt s p (l.take i)
  yes : s = 0 → fr < tu → Wv.cnt s p (l.take i) < Wv.cnt s p (l.take j)
theorem Rep.exact (l : List Nat) (s k p i j : Nat) (hp : p < 2 ^ k) (hf : ∀ n ∈ l, n < 2 ^ (s + k)) (hs : l.length ≤ 17592186044416) : Rep l s p i j (Wv.cnt s p (l.take i) : Nat) (Wv.cnt s p (l.take j) : Nat) := by
  have h0 : Wv.st s p l + Wv.cnt s p l ≤ l.length := by rw [← Wv.st_all s k l hf]; exact Wv.st_mono _ _ _ _ hp
  have h1 := Wv.cnt_take_le s p i l
  have h2 := Wv.cnt_take_le s p j l
  refine ⟨?_, ?_, fun h => by omega, fun _ h => by omega⟩
  · rw [w64 _ (by omega) (by omega), ← Int.natCast_add]; exact near_of _ _ (by omega)
  · rw [w64 _ (by omega) (by omega), ← Int.natCast_add]; exact near_of _ _ (by omega)

/-- what the closure of kinds reads: six blocks from B on -/
structure KB (w0 : World) (B b o s k c : Nat) (l : List Nat) (F T : Nat) (fr tu : Int) (p : Nat) (A1 A2 : Option Addr) (c1 c2 mp : Nat) (W : World) : Prop where
  r0 : W.cell? ⟨B, 0, none⟩ = some (.slice (some ⟨b, o, none⟩) (s + 1) c)
  g0 : W.cell? ⟨B + 1, 0, none⟩ = some (.int .i64 F)
  g1 : W.cell? ⟨B + 1, 1, none⟩ = some (.int .i64 T)
  f0 : W.cell? ⟨B + 2, 0, none⟩ = some (.int .i64 fr)
  t0 : W.cell? ⟨B + 3, 0, none⟩ = some (.int .i64 tu)
  p0 : W.cell? ⟨B + 4, 0, none⟩ = some (.int .i64 p)
  b0 : W.cell? ⟨B + 5, 0, none⟩ = some (.int .i64 l.length)
  b1 : W.cell? ⟨B + 5, 1, none⟩ = some (.slice A1 mp c1)
  b2 : W.cell? ⟨B + 5, 2, none⟩ = some (.slice A2 mp c2)
  lv : LV W W.heap.size (some ⟨b, o, none⟩) (s + 1) k l
  made : IsBits W W.heap.size A1 A2 (Wv.lbits s (2 ^ k) l)
  big : B + 6 ≤ W.heap.size
  old : Below w0.heap.size w0 W
section
variable {w0 : World} {B b o s k c : Nat} {l : List Nat} {F T : Nat} {fr tu : Int} {p : Nat} {A1 A2 : Option Addr} {c1 c2 mp : Nat} {W W' : World}
theorem KB.on (h : KB w0 B b o s k c l F T fr tu p A1 A2 c1 c2 mp W) (hb : Below W.heap.size W W') : KB w0 B b o s k c l F T fr tu p A1 A2 c1 c2 mp W' := by
  have := h.big
  have g : ∀ x y, x < B + 6 → W'.cell? ⟨x, y, none⟩ = W.cell? ⟨x, y, none⟩ := fun x y hx => hb.cell (p := ⟨x, y, none⟩) (by simp; omega)
  exact ⟨(g _ _ (by omega)).trans h.r0, (g _ _ (by omega)).trans h.g0, (g _ _ (by omega)).trans h.g1, (g _ _ (by omega)).trans h.f0, (g _ _ (by omega)).trans h.t0, (g _ _ (by omega)).trans h.p0,
    (g _ _ (by omega)).trans h.b0, (g _ _ (by omega)).trans h.b1, (g _ _ (by omega)).trans h.b2, h.lv.on hb, (h.made.below hb).more hb.size, Nat.le_trans h.big hb.size, h.old.trans (hb.mono h.old.size)⟩
theorem KB.drew (h : KB w0 B b o s k c l F T fr tu p A1 A2 c1 c2 mp W) : KB w0 B b o s k c l F T fr tu p A1 A2 c1 c2 mp W.drew := h.on (Below.refl _ _).drew
end

/-- what kinds answers where s levels are left -/
def KindsOk (l : List Nat) (i j s k : Nat) : Prop := ∀ (p : Nat) (A : Option Addr) (c : Nat) (fr tu : Int) (W : World), p < 2 ^ k → s ≤ c → LV W W.heap.size A s k l → Rep l s p i j fr tu →
  Calls Try.prog 79 #[.slice A s c, .agg #[.int .i64 (Wv.st s p l : Nat), .int .i64 (Wv.st s (p + 1) l : Nat)], .int .i64 fr, .int .i64 tu, .int .i64 p] W fun e w' => ∃ v, e = .returned v ∧ OL W (up (Wv.ks l i j s p)) v w'

theorem infoBits : (Try.prog.info? 27).map (fun i => (i.zero, i.size, i.bytes)) = some (some (.agg #[.int .i64 0, .slice none 0 0, .slice none 0 0]), 3, 56) := by kernel_rfl
/-- all levels but the first, as a slice -/
theorem run_tail (b o s c : Nat) (hc : s + 1 ≤ c) (W : World) : ((Instr.sliceAt 43 (.slice (some ⟨b, o, none⟩) (s + 1) c) (some (.int .i64 1)) none none).run Try.prog W).andThen (fun v w => .ok (Next.value v) w) = .ok (Next.value (.slice (if c = 1 then some ⟨b, o, none⟩ else some ⟨b, o + 3, none⟩) s (c - 1))) W := by
  obtain ⟨i, hi, hzz⟩ := Option.map_eq_some_iff.1 infoBits
  simp only [Prod.mk.injEq] at hzz
  obtain ⟨_, hsz, _⟩ := hzz
  by_cases h1 : c = 1
  · subst h1
    obtain rfl : s = 0 := by omega
    simp [Instr.sliceAt, Instr.slice, Instr.sliceBounds, Instr.sliceBound, run_underlying Try.underlying43, sizeOf, typeInfo, hi, asIntOf]
  · rw [if_neg h1]
    simp [Instr.sliceAt, Instr.slice, Instr.sliceBounds, Instr.sliceBound, run_underlying Try.underlying43, sizeOf, typeInfo, hi, asIntOf, h1, hsz, Addr.add]
    intro h; omega

set_option maxHeartbeats 2000000 in
theorem kinds1_any (l : List Nat) (i j s k : Nat) (IH : KindsOk l i j s (k + 1)) (B b o c p : Nat) (fr tu : Int) (A1 A2 : Option Addr) (c1 c2 : Nat) (one : Bool) (w : World) (hp : p < 2 ^ k) (hc : s + 1 ≤ c) (hk : k ≤ 16) (hR : Rep l (s + 1) p i j fr tu)
    (hf : ∀ n ∈ l, n < 2 ^ (s + 1 + k)) (hs : l.length ≤ 17592186044416)
    (h : KB w B b o s k c l (Wv.st (s + 1) p l) (Wv.st (s + 1) (p + 1) l) fr tu p A1 A2 c1 c2 (l.length / 64 + 1) w) :
    Calls Try.prog 86 #[.bool one, .pointer (some ⟨B, 0, none⟩), .pointer (some ⟨B + 1, 0, none⟩), .pointer (some ⟨B + 5, 0, none⟩), .pointer (some ⟨B + 2, 0, none⟩), .pointer (some ⟨B + 3, 0, none⟩), .pointer (some ⟨B + 4, 0, none⟩)] w fun e w' =>
      ∃ v, e = .returned v ∧ OL w (up (Wv.ks l i j s (Wv.kid p one))) v w' := by
  have hl := Wv.lbits_len s k l hf
  have hkid : Wv.kid p one < 2 ^ (k + 1) := by unfold Wv.kid; rw [Nat.pow_succ]; have := Bt.toNat_le one; omega
  have hp4 : p < 4611686018427387903 := by
    have : 2 ^ k ≤ 2 ^ 16 := Nat.pow_le_pow_right (by omega) hk
    omega
  have hRe := Rep.exact l s (k + 1) (Wv.kid p one) i j hkid (by rw [show s + (k + 1) = s + 1 + k from by omega]; exact hf) hs
  have H1 := Lib.hid (fun W (hW : KB w B b o s k c l (Wv.st (s + 1) p l) (Wv.st (s + 1) (p + 1) l) fr tu p A1 A2 c1 c2 (l.length / 64 + 1) W) => (half_lev s p (2 ^ k) l A1 A2 c1 c2 (l.length / 64 + 1) W one l.length hW.made rfl hl rfl hs hp).mono fun e w' hh => And.intro hh.1 (hW.on hh.2))
  have H2 := Lib.hid (fun W (hW : KB w B b o s k c l (Wv.st (s + 1) p l) (Wv.st (s + 1) (p + 1) l) fr tu p A1 A2 c1 c2 (l.length / 64 + 1) W) => (having_lev s p (2 ^ k) i l A1 A2 c1 c2 (l.length / 64 + 1) W one (Wv.st (s + 1) (p + 1) l : Nat) fr l.length hW.made rfl hl rfl hs hp hR.a).mono fun e w' hh => And.intro hh.1 (hW.on hh.2))
  have H3 := Lib.hid (fun W (hW : KB w B b o s k c l (Wv.st (s + 1) p l) (Wv.st (s + 1) (p + 1) l) fr tu p A1 A2 c1 c2 (l.length / 64 + 1) W) => (having_lev s p (2 ^ k) j l A1 A2 c1 c2 (l.length / 64 + 1) W one (Wv.st (s + 1) (p + 1) l : Nat) tu l.length hW.made rfl hl rfl hs hp hR.b).mono fun e w' hh => And.intro hh.1 (hW.on hh.2))
  have H4 := Lib.hid (fun W => longer_any p one W hp4)
  have H5 := Lib.hid (fun W (hW : KB w B b o s k c l (Wv.st (s + 1) p l) (Wv.st (s + 1) (p + 1) l) fr tu p A1 A2 c1 c2 (l.length / 64 + 1) W) => (IH (Wv.kid p one) (if c = 1 then some ⟨b, o, none⟩ else some ⟨b, o + 3, none⟩) (c - 1) _ _ W hkid (by omega) (by
    by_cases h1 : c = 1
    · intro h0; omega
    · rw [if_neg h1]; exact hW.lv.tail) hRe).mono fun e w' hh => (⟨hh.choose, hh.choose_spec.1, hh.choose_spec.2.since hW.old, hW.on hh.choose_spec.2.old⟩ : ∃ v, e = .returned v ∧ OL w (up (Wv.ks l i j s (Wv.kid p one))) v w' ∧ KB w B b o s k c l (Wv.st (s + 1) p l) (Wv.st (s + 1) (p + 1) l) fr tu p A1 A2 c1 c2 (l.length / 64 + 1) w'))
  have h0 := h.drew
  obtain ⟨j0, j1, j2, j3, j4, j5, j6, j7, j8⟩ : _ ∧ _ ∧ _ ∧ _ ∧ _ ∧ _ ∧ _ ∧ _ ∧ _ := ⟨h.r0, h.g0, h.g1, h.f0, h.t0, h.p0, h.b0, h.b1, h.b2⟩
  clear hRe hkid hp4 hR IH hl hf
  generalize l.length / 64 + 1 = mp at *
  generalize up (Wv.ks l i j s (Wv.kid p one)) = L at *
  generalize Wv.st s (Wv.kid p one) l = F' at *
  generalize Wv.st s (Wv.kid p one + 1) l = T' at *
  generalize Wv.cnt s (Wv.kid p one) (l.take i) = fr' at *
  generalize Wv.cnt s (Wv.kid p one) (l.take j) = tu' at *
  generalize Wv.kid p one = p' at *
  generalize Wv.st (s + 1) p l = F at *
  generalize Wv.st (s + 1) (p + 1) l = T at *
  have HSL := Lib.hid (fun W => run_tail b o s c hc W)
  generalize (if c = 1 then some (⟨b, o, none⟩ : Addr) else some ⟨b, o + 3, none⟩) = A' at *
  go_enter Try.func86, Try.ntmps86
  go_wp2_with fail
  refine wp_region_takes 20 [0, 1, 2, 3, 4, 6, 7, 8, 9, 11, 12, 13, 14, 16, 17] [5, 10, 15, 18, 19] (fun w' => w'.cell? ⟨B, 0, none⟩ = some (.slice (some ⟨b, o, none⟩) (s + 1) c) ∧ w'.cell? ⟨B + 1, 0, none⟩ = some (.int .i64 F) ∧ w'.cell? ⟨B + 1, 1, none⟩ = some (.int .i64 T) ∧ w'.cell? ⟨B + 2, 0, none⟩ = some (.int .i64 fr) ∧ w'.cell? ⟨B + 3, 0, none⟩ = some (.int .i64 tu) ∧ w'.cell? ⟨B + 4, 0, none⟩ = some (.int .i64 p) ∧
      w'.cell? ⟨B + 5, 0, none⟩ = some (.int .i64 l.length) ∧ w'.cell? ⟨B + 5, 1, none⟩ = some (.slice A1 mp c1) ∧ w'.cell? ⟨B + 5, 2, none⟩ = some (.slice A2 mp c2)) (by kernel_rfl) (by kernel_rfl) ⟨j0, j1, j2, j3, j4, j5, j6, j7, j8⟩ ?_
  clear h j0 j1 j2 j3 j4 j5 j6 j7 j8
  refine wpTakes_cons (v := ?_) _ at0 rfl ?_ ?_ ?_
  rotate_left 1
  · rintro W ⟨x0, x1, x2, x3, x4, x5, x6, x7, x8⟩
    go_simp
    rfl
  · exact fun _ _ _ h => h
  simp only [Act.put, List.setIfInBounds_toArray, List.set_cons_zero, List.set_cons_succ]
  refine wpTakes_cons (v := .slice A' s (c - 1)) _ at1 rfl ?_ ?_ ?_
  · rintro W ⟨x0, x1, x2, x3, x4, x5, x6, x7, x8⟩
    simp only [execOp, Sem.run_bind, Sem.run_pure, Option.map_some, Option.map_none]
    exact (HSL.out W)
  · exact fun _ _ _ h => h
  simp only [Act.put, List.setIfInBounds_toArray, List.set_cons_zero, List.set_cons_succ]
  refine wpTakes_cons (v := ?_) _ at2 rfl ?_ ?_ ?_
  rotate_left 1
  · rintro W ⟨x0, x1, x2, x3, x4, x5, x6, x7, x8⟩
    go_simp
    rfl
  · exact fun _ _ _ h => h
  simp only [Act.put, List.setIfInBounds_toArray, List.set_cons_zero, List.set_cons_succ]
  refine wpTakes_cons (v := ?_) _ at3 rfl ?_ ?_ ?_
  rotate_left 1
  · rintro W ⟨x0, x1, x2, x3, x4, x5, x6, x7, x8⟩
    go_simp
    rfl
  · exact fun _ _ _ h => h
  simp only [Act.put, List.setIfInBounds_toArray, List.set_cons_zero, List.set_cons_succ]
  refine wpTakes_cons (v := ?_) _ at4 rfl ?_ ?_ ?_
  rotate_left 1
  · rintro W ⟨x0, x1, x2, x3, x4, x5, x6, x7, x8⟩
    go_simp
    rfl
  · exact fun _ _ _ h => h
  simp only [Act.put, List.setIfInBounds_toArray, List.set_cons_zero, List.set_cons_succ]
  refine wpTakes_cons (v := ?_) _ at6 rfl ?_ ?_ ?_
  rotate_left 1
  · rintro W ⟨x0, x1, x2, x3, x4, x5, x6, x7, x8⟩
    go_simp
    rfl
  · exact fun _ _ _ h => h
  simp only [Act.put, List.setIfInBounds_toArray, List.set_cons_zero, List.set_cons_succ]
  refine wpTakes_cons (v := ?_) _ at7 rfl ?_ ?_ ?_
  rotate_left 1
  · rintro W ⟨x0, x1, x2, x3, x4, x5, x6, x7, x8⟩
    go_simp
    rfl
  · exact fun _ _ _ h => h
  simp only [Act.put, List.setIfInBounds_toArray, List.set_cons_zero, List.set_cons_succ]
  refine wpTakes_cons (v := ?_) _ at8 rfl ?_ ?_ ?_
  rotate_left 1
  · rintro W ⟨x0, x1, x2, x3, x4, x5, x6, x7, x8⟩
    go_simp
    rfl
  · exact fun _ _ _ h => h
  simp only [Act.put, List.setIfInBounds_toArray, List.set_cons_zero, List.set_cons_succ]
  refine wpTakes_cons (v := ?_) _ at9 rfl ?_ ?_ ?_
  rotate_left 1
  · rintro W ⟨x0, x1, x2, x3, x4, x5, x6, x7, x8⟩
    go_simp
    rfl
  · exact fun _ _ _ h => h
  simp only [Act.put, List.setIfInBounds_toArray, List.set_cons_zero, List.set_cons_succ]
  refine wpTakes_cons (v := ?_) _ at11 rfl ?_ ?_ ?_
  rotate_left 1
  · rintro W ⟨x0, x1, x2, x3, x4, x5, x6, x7, x8⟩
    go_simp
    rfl
  · exact fun _ _ _ h => h
  simp only [Act.put, List.setIfInBounds_toArray, List.set_cons_zero, List.set_cons_succ]
  refine wpTakes_cons (v := ?_) _ at12 rfl ?_ ?_ ?_
  rotate_left 1
  · rintro W ⟨x0, x1, x2, x3, x4, x5, x6, x7, x8⟩
    go_simp
    rfl
  · exact fun _ _ _ h => h
  simp only [Act.put, List.setIfInBounds_toArray, List.set_cons_zero, List.set_cons_succ]
  refine wpTakes_cons (v := ?_) _ at13 rfl ?_ ?_ ?_
  rotate_left 1
  · rintro W ⟨x0, x1, x2, x3, x4, x5, x6, x7, x8⟩
    go_simp
    rfl
  · exact fun _ _ _ h => h
  simp only [Act.put, List.setIfInBounds_toArray, List.set_cons_zero, List.set_cons_succ]
  refine wpTakes_cons (v := ?_) _ at14 rfl ?_ ?_ ?_
  rotate_left 1
  · rintro W ⟨x0, x1, x2, x3, x4, x5, x6, x7, x8⟩
    go_simp
    rfl
  · exact fun _ _ _ h => h
  simp only [Act.put, List.setIfInBounds_toArray, List.set_cons_zero, List.set_cons_succ]
  refine wpTakes_cons (v := ?_) _ at16 rfl ?_ ?_ ?_
  rotate_left 1
  · rintro W ⟨x0, x1, x2, x3, x4, x5, x6, x7, x8⟩
    go_simp
    rfl
  · exact fun _ _ _ h => h
  simp only [Act.put, List.setIfInBounds_toArray, List.set_cons_zero, List.set_cons_succ]
  refine wpTakes_cons (v := ?_) _ at17 rfl ?_ ?_ ?_
  rotate_left 1
  · rintro W ⟨x0, x1, x2, x3, x4, x5, x6, x7, x8⟩
    go_simp
    rfl
  · exact fun _ _ _ h => h
  simp only [Act.put, List.setIfInBounds_toArray, List.set_cons_zero, List.set_cons_succ]
  refine wpTakes_nil ?_
  refine wpCalls_cons _ at5 rfl fun K hK => ?_
  go_simp
  go_at_call 76
  refine (H1.out _ h0).mono ?_
  clear h0
  rintro e w3 ⟨rfl, h0⟩
  refine hK.out _ _ ⟨h0.r0, h0.g0, h0.g1, h0.f0, h0.t0, h0.p0, h0.b0, h0.b1, h0.b2⟩ ?_
  clear hK
  refine wpCalls_cons _ at10 rfl fun K hK => ?_
  go_simp
  go_at_call 77
  refine (H2.out _ h0).mono ?_
  clear h0
  rintro e w3 ⟨rfl, h0⟩
  refine hK.out _ _ ⟨h0.r0, h0.g0, h0.g1, h0.f0, h0.t0, h0.p0, h0.b0, h0.b1, h0.b2⟩ ?_
  clear hK
  refine wpCalls_cons _ at15 rfl fun K hK => ?_
  go_simp
  go_at_call 77
  refine (H3.out _ h0).mono ?_
  clear h0
  rintro e w3 ⟨rfl, h0⟩
  refine hK.out _ _ ⟨h0.r0, h0.g0, h0.g1, h0.f0, h0.t0, h0.p0, h0.b0, h0.b1, h0.b2⟩ ?_
  clear hK
  refine wpCalls_cons _ at18 rfl fun K hK => ?_
  go_simp
  go_at_call 78
  refine (H4.out _).mono ?_
  rintro e w3 ⟨rfl, rfl⟩
  refine hK.out _ _ ⟨h0.r0, h0.g0, h0.g1, h0.f0, h0.t0, h0.p0, h0.b0, h0.b1, h0.b2⟩ ?_
  clear hK
  refine wpCalls_cons _ at19 rfl fun K hK => ?_
  go_simp
  go_at_call 79
  refine (H5.out _ h0).mono ?_
  rintro e w3 ⟨v, rfl, J5, h6⟩
  refine hK.out _ _ ⟨h6.r0, h6.g0, h6.g1, h6.f0, h6.t0, h6.p0, h6.b0, h6.b1, h6.b2⟩ (wpCalls_nil ?_)
  clear hK h0 h6
  simp only [List.drop_succ_cons, List.drop_zero]
  obtain ⟨A9, c9, rfl, _⟩ := own_slice J5.own
  go_wp2
  go_ret
  exact ⟨_, rfl, J5⟩

end Go.Proofs.Ytgnakccbkglfpaa
