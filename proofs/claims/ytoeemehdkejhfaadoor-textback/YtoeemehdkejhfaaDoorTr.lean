/- What text.Read answers. -/
import Derived.Test.YtoeemehdkejhfaaDoorTn
import Derived.Test.YtoeemehdkejhfaaDoorTg
import Derived.Test.YtoeemehdkejhfaaDoorTi
import Derived.Test.YtoeemehdkejhfaaDoorTk
import Derived.Test.YtoeemehdkejhfaaDoorTq
namespace Go.Proofs.YtoeemehdkejhfaaDoor
open Go.RowKit Tx

/-- a book's value, and what it leads to -/
abbrev bookV (A : Option Addr) (n c : Nat) (A2 : Option Addr) (n2 c2 : Nat) : Value := .agg #[.slice A n c, .slice A2 n2 c2]
def zeroBook : Nat → Value := fun _ => .slice none 0 0
theorem set2 {w : World} {b : Nat} {t : TypeId} {f : Nat → Value} (h : w.rowIs b t 2 f) (v0 v1 : Value) :
    (w.setCell ⟨b, 0, none⟩ v0).cell? ⟨b, 0, none⟩ = some v0 ∧ ((w.setCell ⟨b, 0, none⟩ v0).setCell ⟨b, 1, none⟩ v1).cell? ⟨b, 0, none⟩ = some v0 ∧ ((w.setCell ⟨b, 0, none⟩ v0).setCell ⟨b, 1, none⟩ v1).cell? ⟨b, 1, none⟩ = some v1 :=
  ⟨(h.set 0 v0).cell (by omega), ((h.set 0 v0).set 1 v1).cell (by omega), ((h.set 0 v0).set 1 v1).cell (by omega)⟩

/-- the words and the text of a book in memory -/
structure BookAt (w : World) (A : Option Addr) (n c : Nat) (A2 : Option Addr) (n2 : Nat) (ws : List Wd) (T : List Int) : Prop where
  words : SRow w w.heap.size A ws
  wlen : n = ws.length
  wcap : n ≤ c
  text : IRow w w.heap.size A2 T
  tlen : n2 = T.length
theorem BookAt.on {w w' : World} {A : Option Addr} {n c : Nat} {A2 : Option Addr} {n2 : Nat} {ws : List Wd} {T : List Int} (h : BookAt w A n c A2 n2 ws T) (hb : Below w.heap.size w w') : BookAt w' A n c A2 n2 ws T :=
  ⟨h.words.on hb, h.wlen, h.wcap, h.text.on hb, h.tlen⟩

def ReadOK (l : Wd) (w : World) (e : Ending) (w' : World) : Prop :=
  ∃ A n c A2 n2 c2, e = .returned (.tuple #[bookV A n c A2 n2 c2, .int .i64 0]) ∧ BookAt w' A n c A2 n2 (bw (linesOf l)) (bt (linesOf l)) ∧ Below w.heap.size w w'

set_option maxHeartbeats 1000000 in
theorem read_long (l : Wd) (w : World) (h : 400 < l.length) :
    Calls Tryd.prog 5 #[sv l] w fun e w' => e = .returned (.tuple #[bookV none 0 0 none 0 0, .int .i64 2]) ∧ Below w.heap.size w w' := by
  have hd : decide ((400 : Int) < (l.length : Int)) = true := by simp; omega
  go_enter Tryd.func5, Tryd.ntmps5
  go_wp2
  exact bodyPost_ret (v := .tuple #[bookV none 0 0 none 0 0, .int .i64 2]) (by simp [results, Tryd.results5, go_sem]) rfl ⟨rfl, (Below.refl _ _).alloc (Nat.le_refl _) _⟩

theorem trim_any (l : Wd) (w : World) (hl : l.length ≤ 400) : Calls Tryd.prog 17 #[sv l, .string ⟨#[10]⟩] w fun e w' => e = .returned (sv (trimB l)) ∧ w = w' := by
  refine (Tryd.strings_TrimSuffix ⟨l.toArray⟩ ⟨#[10]⟩ w (by simpa [ByteArray.size] using (by omega : l.length ≤ 9223372036854775807))).mono ?_
  rintro e w' ⟨rfl, rfl⟩
  exact ⟨rfl, rfl⟩

/-- the start, as far as the lines and all words: then by cases -/
theorem flat_le : ∀ (l : Wd), (cutB l).flatten.length ≤ l.length + (sb l).length := by
  intro l
  have key : ∀ (ps : List Wd), ((ps.map fieldsB).flatten).length ≤ ps.flatten.length + ps.length := by
    intro ps
    induction ps with
    | nil => simp
    | cons p ps ih =>
      have h1 := fb_length p []
      simp only [List.map_cons, List.flatten_cons, List.length_append, List.length_cons] at ih ⊢
      unfold fieldsB at *
      omega
  have h2 : ∀ l : Wd, (sb l).flatten.length ≤ l.length := by
    intro l
    induction l with
    | nil => simp [sb]
    | cons c r ih =>
      unfold sb
      split
      · simp only [List.flatten_cons, List.length_append, List.length_nil, List.length_cons]; omega
      · cases hs : sb r with
        | nil => simp
        | cons x t => rw [hs] at ih; simp only [List.flatten_cons, List.length_append, List.length_cons] at ih ⊢; omega
  have := key (sb l)
  have := h2 l
  unfold cutB
  omega

end Go.Proofs.YtoeemehdkejhfaaDoor
