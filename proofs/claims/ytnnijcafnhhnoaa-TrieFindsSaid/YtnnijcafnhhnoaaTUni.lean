/-
  LAYER 9 (trie): what both sides tell, in one form; a piece of a list of code points.
-/
import Derived.Test.YtnnijcafnhhnoaaTLastP
import Derived.Test.YtnnijcafnhhnoaaTLong2
namespace Go.Proofs.Ytnnijcafnhhnoaa
set_option maxRecDepth 100000
open Go.RowKit Go.Lib
attribute [local go_sem] Oper.semAt_some

def elsOf : Option Ent → List El
  | none => []
  | some x => x.els
def lenOf : Option Ent → Nat
  | none => 0
  | some x => x.codes.length

/-- 's[k:]'. -/
theorem run_cut_lo (a : Option Addr) (l c k : Nat) (h : k ≤ l) (w : World) : (Instr.slice 32 (.slice a l c) (some (.int .i64 (k : Int))) none none).run Try.prog w = .ok (.slice (if c = k then a else a.map (·.add k)) (l - k) (c - k)) w := by
  have he : Try.prog.underlying 32 = some (.slice (Try.prog.elem 32)) := by simp [go_sem]
  rw [run_slice_l w 32 a l c he .i64 (k : Int) (by omega) (by omega)]
  have hz : (sizeOf (Try.prog.elem 32)).run Try.prog w = .ok 1 w := by simp [go_sem]
  rw [hz]
  simp only [Result.andThen_ok, sliced, Int.toNat_natCast, Nat.mul_one]
theorem SR.drop {P : Nat → Prop} {w : World} {a : Option Addr} {m c : Nat} {l : List Int} (h : SR P 1 w (.slice a m c) l.length (rc l)) {k : Nat} (hk : k ≤ l.length) : SR P 1 w (.slice (if c = k then a else a.map (·.add k)) (m - k) (c - k)) (l.drop k).length (rc (l.drop k)) := by
  obtain ⟨h0, a', c', h1, h2, h3, h4, h5⟩ := h
  obtain ⟨rfl, rfl, rfl⟩ : a = a' ∧ m = l.length ∧ c = c' := by simpa using h1
  have hl : (l.drop k).length = l.length - k := List.length_drop
  refine ⟨by rw [rc_len]; omega, _, c - k, by rw [hl], by omega, by omega, fun e => ?_, fun hn => ?_⟩
  · split at e
    · have := h4 e; omega
    · cases a with
      | none => have := h4 rfl; omega
      | some x => cases e
  · obtain ⟨b, off, rfl, q2, q3, q4⟩ := h5 (by omega)
    rw [if_neg (by omega)]
    refine ⟨b, off + k, by simp only [Option.map_some, Option.some.injEq]; exact addr_add b off k, q2, q3, fun i u hu => ?_⟩
    simp only [rc, List.map_drop, List.getElem?_drop] at hu
    rw [Nat.add_assoc]
    exact q4 (k + i) u hu
theorem cut_from (a : Option Addr) (l c k : Nat) (h : k ≤ l) : ∃ a' : Option Addr, (∀ w : World, (Instr.slice 32 (.slice a l c) (some (.int .i64 (k : Int))) none none).run Try.prog w = .ok (.slice a' (l - k) (c - k)) w) ∧
    ∀ (P : Nat → Prop) (w : World) (ls : List Int), SR P 1 w (.slice a l c) ls.length (rc ls) → SR P 1 w (.slice a' (l - k) (c - k)) (ls.drop k).length (rc (ls.drop k)) :=
  ⟨_, fun w => run_cut_lo a l c k h w, fun P w ls hs => hs.drop (by obtain ⟨_, a', c', h1, _⟩ := hs; simp at h1; omega)⟩

section
variable {Q P : Nat → Prop} {t : Nat} {L : List Ent} {n : Int} {rt : Nat} {ve : Value} {nd mp : List Int → Option Nat}
def UGet (Q : Nat → Prop) (t : Nat) (L : List Ent) (n : Int) (rt : Nat) (ve : Value) (nd mp : List Int → Option Nat) (o : Option Ent) (w : World) (e : Ending) (w' : World) : Prop :=
  ∃ a m c, e = .returned (.tuple #[.slice a m c, .bool o.isSome]) ∧ SR (fun k => w.heap.size ≤ k) 4 w' (.slice a m c) (elsOf o).length (ec (elsOf o)) ∧ TrieAt Q w' t L (n + 1) rt ve nd mp ∧ w.grownBy w' (some t)
theorem get_uni (hg : Good L) (v : Value) (l : List Int) (w : World) (h : TrieAt Q w t L n rt ve nd mp) (hv : SR P 1 w v l.length (rc l)) (hP : ∀ k, P k → k ≠ t) (h0 : 0 ≤ n) (h1 : n < 4611686018427387904) :
    Calls Try.prog 12 #[.pointer (some ⟨t, 0, none⟩), v] w (UGet Q t L n rt ve nd mp (findEnt L l) w) := by
  cases hf : findEnt L l with
  | none =>
    refine (get_none v l w h hv hP h0 h1 hf).mono ?_
    rintro e w' ⟨rfl, q1, q2⟩
    exact ⟨none, 0, 0, rfl, SR.nil _ _ _, q1, q2⟩
  | some x =>
    refine (get_some v l x w h hv hP h0 h1 hf (by have := ent_fine (hg.ent x (List.mem_of_find?_eq_some hf)); omega)).mono ?_
    rintro e w' ⟨a, rfl, q0, q1, q2⟩
    exact ⟨a, _, _, rfl, q0.reads, q1, q2⟩
def ULong (Q : Nat → Prop) (t : Nat) (L : List Ent) (n : Int) (rt : Nat) (ve : Value) (nd mp : List Int → Option Nat) (o : Option Ent) (w : World) (e : Ending) (w' : World) : Prop :=
  ∃ a m c, e = .returned (.tuple #[.int .i64 (lenOf o : Int), .slice a m c]) ∧ SR (fun k => w.heap.size ≤ k) 4 w' (.slice a m c) (elsOf o).length (ec (elsOf o)) ∧ TrieAt Q w' t L (n + 1) rt ve nd mp ∧ w.grownBy w' (some t)
theorem long_uni (hg : Good L) (v : Value) (l : List Int) (w : World) (h : TrieAt Q w t L n rt ve nd mp) (hv : SR P 1 w v l.length (rc l)) (hP : ∀ k, P k → k ≠ t) (h0 : 0 ≤ n) (h1 : n < 4611686018427387904) :
    Calls Try.prog 13 #[.pointer (some ⟨t, 0, none⟩), v] w (ULong Q t L n rt ve nd mp (lastEnt L l (l.length + 1)) w) := by
  rcases lg_last hg l with ⟨hf, _⟩ | ⟨x, hx, hf, _⟩
  · refine (longest_none v l w h hv hP h0 h1 hf).mono ?_
    rintro e w' ⟨rfl, q1, q2⟩
    rw [hf]
    exact ⟨none, 0, 0, rfl, SR.nil _ _ _, q1, q2⟩
  · refine (longest_some v l x w h hv hP h0 h1 hf (by have := ent_fine (hg.ent x hx); omega)).mono ?_
    rintro e w' ⟨a, rfl, q0, q1, q2⟩
    rw [hf]
    exact ⟨a, _, _, rfl, q0.reads, q1, q2⟩
def URGet (P : Nat → Prop) (o : Option Ent) (w : World) (e : Ending) (w' : World) : Prop :=
  ∃ a m c, e = .returned (.tuple #[.slice a m c, .bool o.isSome]) ∧ SR P 4 w' (.slice a m c) (elsOf o).length (ec (elsOf o)) ∧ w.grownBy w' none
theorem rget_uni {P' : Nat → Prop} (v vc : Value) (p : List Int) (w : World) (h : EntsR P w v L) (hp : SR P' 1 w vc p.length (rc p)) : Calls Try.prog 16 #[v, vc] w (URGet P (findEnt L p) w) := by
  refine (rget_any P P' v vc L p w h hp).mono ?_
  rintro e w' ⟨g, ⟨h1, rfl⟩ | ⟨x, u, h1, rfl, h2⟩⟩
  · rw [h1]; exact ⟨none, 0, 0, rfl, SR.nil _ _ _, g⟩
  · rw [h1]
    obtain ⟨a, c, rfl, _⟩ := h2.form
    exact ⟨a, _, c, rfl, h2, g⟩
def URLong (P : Nat → Prop) (o : Option Ent) (w : World) (e : Ending) (w' : World) : Prop :=
  ∃ a m c, e = .returned (.tuple #[.int .i64 (lenOf o : Int), .slice a m c]) ∧ SR P 4 w' (.slice a m c) (elsOf o).length (ec (elsOf o)) ∧ w.grownBy w' none
theorem rlong_uni {P' : Nat → Prop} (hg : Good L) (v vc : Value) (p : List Int) (w : World) (h : EntsR P w v L) (hp : SR P' 1 w vc p.length (rc p)) : Calls Try.prog 17 #[v, vc] w (URLong P (lastEnt L p (p.length + 1)) w) := by
  refine (rlong_any P P' v vc L p w h hp).mono ?_
  rintro e w' ⟨u, rfl, ho, g⟩
  rcases lg_last hg p with ⟨hf, h2⟩ | ⟨x, hx, hf, h2⟩
  · rw [h2] at ho ⊢
    rw [hf]
    have : u = .slice none 0 0 := ho
    subst this
    exact ⟨none, 0, 0, rfl, SR.nil _ _ _, g⟩
  · rw [h2] at ho ⊢
    rw [hf]
    have ho : SR P 4 w' u x.els.length (ec x.els) := ho
    obtain ⟨a, c, rfl, _⟩ := ho.form
    exact ⟨a, _, c, rfl, ho, g⟩
end
end Go.Proofs.Ytnnijcafnhhnoaa
