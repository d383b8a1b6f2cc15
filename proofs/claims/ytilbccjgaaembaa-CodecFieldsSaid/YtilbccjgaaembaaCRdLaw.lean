/-
  LAYER 2 (codec): CodecReader: a reader reads on, call by call, up to its first error, which stays; it never goes beyond the end.
-/
import Derived.Test.YtilbccjgaaembaaCRefTake
import Derived.Test.YtilbccjgaaembaaCShort
import Derived.Test.YtilbccjgaaembaaCArgs2
import Derived.Deep.DeepCutAuto
import Derived.Deep.RegionHeld3
import Derived.ProofKit
import Derived.OpenShut
namespace Go.Proofs.Ytilbccjgaaembaa
set_option maxRecDepth 100000
open Go.RowKit Go.Lib

/-- Both readers over the same bytes, each in a state of its own. -/
def Both (w0 : World) (r o : Nat) (a a' : Option Addr) (c c' : Nat) (bs : List UInt8) (p : Nat) (e : Int) (q : Nat) (f : Int) (w : World) : Prop :=
  Rd w r (.slice a bs.length c) p e ∧ Rq w o (.slice a' bs.length c') q f ∧ Reads w (.slice a bs.length c) bs ∧ Reads w (.slice a' bs.length c') bs ∧ w0.heap.size ≤ r ∧ w0.heap.size ≤ o ∧ r ≠ o ∧ Below w0.heap.size w0 w

section
variable {w0 w w' : World} {r o : Nat} {a a' : Option Addr} {c c' : Nat} {bs : List UInt8} {p : Nat} {e : Int} {q : Nat} {f : Int}

theorem reads_carry {x : Option Addr} {l n : Nat} {B : Nat} (hn : bs ≠ [] → x.map (·.block) ≠ some B) (hb : Reads w (.slice x l n) bs) (hg : w.grownBy w' (some B)) : Reads w' (.slice x l n) bs := by
  by_cases e : bs = []
  · subst e
    rcases hb with ⟨hh, _⟩ | ⟨b, off, cp, hh, h1, h2, _⟩
    · exact .inl ⟨hh, rfl⟩
    · exact .inr ⟨b, off, cp, hh, h1, h2, fun i u hu => by simp at hu⟩
  · refine hb.kept hg (.inr ?_)
    have := hn e
    cases x <;> simp_all [Value.ownBlock]

theorem Both.turnR (h : Both w0 r o a a' c c' bs p e q f w) (hg : w.grownBy w' (some r)) {p' : Nat} {e' : Int} (hR : Rd w' r (.slice a bs.length c) p' e') : Both w0 r o a a' c c' bs p' e' q f w' := by
  obtain ⟨h1, h2, h3, h4, h5, h6, h7, h8⟩ := h
  refine ⟨hR, h2.kept hg (by simpa using h7), h1.carry h3 hg, ?_, h5, h6, h7, h8.trans (gbelow hg h8.size (by simpa using h5))⟩
  by_cases e : bs = []
  · exact reads_carry (fun h => absurd e h) h4 hg
  · refine reads_carry (fun _ hx => ?_) h4 hg
    rcases h4 with ⟨_, hh⟩ | ⟨b, off, cap, hv, _, _, hc⟩
    · exact e hh
    · simp only [Value.slice.injEq] at hv
      obtain ⟨rfl, _, _⟩ := hv
      simp at hx
      subst hx
      obtain ⟨u, l', rfl⟩ := List.exists_cons_of_ne_nil e
      have := hc 0 u rfl
      simp only [World.cell?, show _ = _ from h1] at this
      simp only [Nat.add_zero] at this
      rcases off with _ | _ | _ | _ | off <;> simp at this
theorem Both.turnO (h : Both w0 r o a a' c c' bs p e q f w) (hg : w.grownBy w' (some o)) {q' : Nat} {f' : Int} (hR : Rq w' o (.slice a' bs.length c') q' f') : Both w0 r o a a' c c' bs p e q' f' w' := by
  obtain ⟨h1, h2, h3, h4, h5, h6, h7, h8⟩ := h
  refine ⟨h1.kept hg (by simpa using fun e => h7 e.symm), hR, ?_, h2.carry h4 hg, h5, h6, h7, h8.trans (gbelow hg h8.size (by simpa using h6))⟩
  by_cases e : bs = []
  · exact reads_carry (fun h => absurd e h) h3 hg
  · refine reads_carry (fun _ hx => ?_) h3 hg
    rcases h3 with ⟨_, hh⟩ | ⟨b, off, cap, hv, _, _, hc⟩
    · exact e hh
    · simp only [Value.slice.injEq] at hv
      obtain ⟨rfl, _, _⟩ := hv
      simp at hx
      subst hx
      obtain ⟨u, l', rfl⟩ := List.exists_cons_of_ne_nil e
      have := hc 0 u rfl
      simp only [World.cell?, show _ = _ from h2] at this
      simp only [Nat.add_zero] at this
      rcases off with _ | _ | _ | off <;> simp at this
theorem Both.new (h : Both w0 r o a a' c c' bs p e q f w) (hg : w.grownBy w' none) : Both w0 r o a a' c c' bs p e q f w' := by
  obtain ⟨h1, h2, h3, h4, h5, h6, h7, h8⟩ := h
  exact ⟨h1.new hg, h2.new hg, h3.new hg, h4.new hg, h5, h6, h7, h8.trans (gbelow hg h8.size (by simp))⟩
theorem Both.drewN (h : Both w0 r o a a' c c' bs p e q f w) (n : Nat) : Both w0 r o a a' c c' bs p e q f (w.drewN n) := h.new (gdrewN (World.grownBy.refl _ _) _)
theorem Both.below (h : Both w0 r o a a' c c' bs p e q f w) : Below w0.heap.size w0 w := h.2.2.2.2.2.2.2
/-- A new block that is then turned. -/
theorem Both.turn (h : Both w0 r o a a' c c' bs p e q f w) (x : Obj) (w' : World) (hg : (w.alloc x).grownBy w' (some w.heap.size)) : Both w0 r o a a' c c' bs p e q f w' := by
  refine h.new (gnew (World.grownBy_alloc w x none) hg ?_)
  rintro _ ⟨⟩
  exact .inl (Nat.le_refl _)
end

/-- What Done answers. -/
def dn (l p : Nat) (e : Int) : Int := if e = 0 then (if p < l then 22 else 0) else e
theorem Done_all (r : Nat) (a : Option Addr) (l c : Nat) (pos : Nat) (er : Int) (w : World) (hR : Rd w r (.slice a l c) pos er) (hl : pos ≤ l) :
    Calls Try.prog 36 #[.pointer (some ⟨r, 0, none⟩)] w fun e w' => e = .returned (.int .i64 (dn l pos er)) ∧ ∃ k, w' = w.drewN k := by
  unfold dn
  by_cases h : er = 0
  · subst h
    rw [if_pos rfl]
    exact done_any r a l c pos w hR hl
  · rw [if_neg h]
    exact (done_err r _ pos er w hR h).mono fun e w' ⟨h1, h2⟩ => ⟨h1, 0, h2.symm⟩
theorem qDone_all (r : Nat) (a : Option Addr) (l c : Nat) (pos : Nat) (er : Int) (w : World) (hR : Rq w r (.slice a l c) pos er) (hl : pos ≤ l) :
    Calls Try.prog 49 #[.pointer (some ⟨r, 0, none⟩)] w fun e w' => e = .returned (.int .i64 (dn l pos er)) ∧ ∃ k, w' = w.drewN k := by
  unfold dn
  by_cases h : er = 0
  · subst h
    rw [if_pos rfl]
    exact qDone_any r a l c pos w hR hl
  · rw [if_neg h]
    exact qDone_err r _ pos er w hR h

theorem stAt_le {er : Int} {pos m n : Nat} (hp : pos ≤ n) (hm : m ≤ n - pos) : stAt er pos m ≤ n := by unfold stAt; split <;> omega
theorem tRes_len {bs : List UInt8} {n : Int} {f : List UInt8} {m : Nat} {x : Int} (h : tRes bs n = (f, m, x)) : m ≤ bs.length := by
  unfold tRes at h
  split at h
  · simp only [Prod.mk.injEq] at h; omega
  · split at h <;> (simp only [Prod.mk.injEq] at h; omega)
end Go.Proofs.Ytilbccjgaaembaa
