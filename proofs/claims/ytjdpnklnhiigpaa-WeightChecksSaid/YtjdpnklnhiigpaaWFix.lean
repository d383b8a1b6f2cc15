/-
  A REGION THAT DRAWS ITS ORDER: SEVERAL OPERATIONS (CALLS) THAT MAY ALL COME NOW, each of which tells one value in every world that meets S and leaves one that meets S: they come in whatever order, and the rest is shown once, of any world that meets S. No program is named here.
-/
import Derived.Deep.RegionHeld3
import Derived.KernelRfl
namespace Go.Proofs.Ytjdpnklnhiigpaa
set_option maxRecDepth 100000
open Go

section
variable {P : Program} {ops : Array Oper} {Q : Exit → Act → World → Prop} {md : Region.Mode} {S : World → Prop}

/-- What an operation does: it tells v and leaves a world that meets S. -/
def Leads (P : Program) (S : World → Prop) (v : Value) : Result Next → Prop
  | .ok (.value u) w' => u = v ∧ S w'
  | .ok (.enter f args) w' => Calls P f args w' fun e w'' => e = .returned v ∧ S w''
  | _ => False

def FixIf (P : Program) (ops : Array Oper) (S : World → Prop) (o : Oper) (v : Value) (a : Act) : Prop :=
  Region.wanted o (yielded ops a.tmps) = true ∧ ∀ w, S w → Leads P S v ((execOp a.eval o).run P w)

theorem FixIf.wpOp {i : Nat} {o : Oper} {v : Value} {a : Act} (hi : ops[i]? = some o) (hy : FixIf P ops S o v a) {K : Act → World → Prop} {w : World} (hS : S w)
    (h : ∀ w', S w' → K (a.put o.dst v) w') : wpOp P ops Q i K a w := by
  unfold Go.wpOp
  simp only [hi, hy.1, if_true, Oper.wp]
  left
  have hl := hy.2 w hS
  generalize (execOp a.eval o).run P w = r at *
  cases r with
  | ok n w' =>
    cases n <;> simp only [Leads, Oper.upon] at hl ⊢
    case value u => obtain ⟨rfl, hw⟩ := hl; exact h _ hw
    case enter f args =>
      refine hl.mono ?_
      rintro e w'' ⟨rfl, hw⟩
      exact h _ hw
  | halt x w' => cases hl

theorem FixIf.put {o : Oper} {v : Value} {a : Act} (hy : FixIf P ops S o v a) (hs : ∀ cs b, o.op ≠ .select cs b) {d : Option Tmp} {u : Value} (hd : ∀ x, d = some x → x ∉ o.looksAt ops) : FixIf P ops S o v (a.put d u) := by
  unfold FixIf at *
  rw [execOp_put o hs a d u hd, wanted_put o a d u hd]
  exact hy

/-- In whatever order those of 'rem' come, no other may come ahead of the last of them. -/
def comesIn (md : Region.Mode) (ops : Array Oper) : Nat → Array Bool → List Nat → Bool
  | 0, _, rem => rem.isEmpty
  | n + 1, l, rem => !(Region.ready md ops l).isEmpty && (Region.ready md ops l).all fun j => rem.contains j && comesIn md ops n (l.setIfInBounds j true) (rem.erase j)

def putAll (a : Act) (R : List (Nat × Oper × Value)) : Act := R.foldl (fun a x => a.put x.2.1.dst x.2.2) a
def setAll (l : Array Bool) (R : List (Nat × Oper × Value)) : Array Bool := R.foldl (fun l x => l.setIfInBounds x.1 true) l

theorem putAll_put (d : Option Tmp) (v : Value) : ∀ (R : List (Nat × Oper × Value)) (a : Act), (∀ y ∈ R, ∀ k, d = some k → y.2.1.dst ≠ some k) → putAll (a.put d v) R = (putAll a R).put d v
  | [], _, _ => rfl
  | y :: R, a, h => by
    show putAll ((a.put d v).put y.2.1.dst y.2.2) R = (putAll (a.put y.2.1.dst y.2.2) R).put d v
    rw [Act.put_comm a v y.2.2 (h y (by simp)), putAll_put d v R _ (fun z hz => h z (by simp [hz]))]

theorem setAll_set (i : Nat) : ∀ (R : List (Nat × Oper × Value)) (l : Array Bool), (∀ y ∈ R, y.1 ≠ i) → setAll (l.setIfInBounds i true) R = (setAll l R).setIfInBounds i true
  | [], _, _ => rfl
  | y :: R, l, h => by
    show setAll ((l.setIfInBounds i true).setIfInBounds y.1 true) R = (setAll (l.setIfInBounds y.1 true) R).setIfInBounds i true
    rw [Array.setIfInBounds_comm _ _ (Ne.symm (h y (by simp))), setAll_set i R _ (fun z hz => h z (by simp [hz]))]

theorem wpAnyH_fixed : ∀ (n : Nat) (R : List (Nat × Oper × Value)) (fuel : Nat) (listed : Array Bool) (a : Act) (w : World), R.length = n → comesIn md ops n listed (R.map (·.1)) = true →
    (∀ x ∈ R, ops[x.1]? = some x.2.1 ∧ (∀ cs b, x.2.1.op ≠ .select cs b) ∧ FixIf P ops S x.2.1 x.2.2 a) →
    R.Pairwise (fun x y => x.2.1.apart ops y.2.1 = true ∧ y.2.1.apart ops x.2.1 = true ∧ x.1 ≠ y.1) → S w →
    (∀ w', S w' → wpAnyH P md ops Q S fuel (setAll listed R) (putAll a R) w') → wpAnyH P md ops Q S (fuel + n) listed a w
  | 0, R, fuel, listed, a, w, hl, _, _, _, hS, H => by
    obtain rfl := List.length_eq_zero_iff.1 hl
    exact H w hS
  | n + 1, R, fuel, listed, a, w, hl, hc, hR, hp, hS, H => by
    simp only [comesIn, Bool.and_eq_true, Bool.not_eq_true', List.all_eq_true, List.contains_iff_mem] at hc
    refine ⟨fun h => (by rw [h] at hc; simp at hc), fun j hj => ?_⟩
    obtain ⟨hjm, hcj⟩ := hc.2 j hj
    obtain ⟨l1, l2, hn1, he, her⟩ := List.exists_erase_eq hjm
    rw [her] at hcj
    obtain ⟨R1, R2', rfl, e1, e2⟩ := List.map_eq_append_iff.1 he
    obtain ⟨x, R2, rfl, e3, e4⟩ := List.map_eq_cons_iff.1 e2
    subst e3
    obtain ⟨q1, q2, q3⟩ := hR x (by simp)
    obtain ⟨p1, p2, p3⟩ := List.pairwise_append.1 hp
    obtain ⟨p4, p5⟩ := List.pairwise_cons.1 p2
    have ap : ∀ y ∈ R1 ++ R2, y.2.1.apart ops x.2.1 = true ∧ x.2.1.apart ops y.2.1 = true ∧ y.1 ≠ x.1 := fun y hy => by
      rcases List.mem_append.1 hy with h | h
      · exact p3 y h x (by simp)
      · exact ⟨(p4 y h).2.1, (p4 y h).1, Ne.symm (p4 y h).2.2⟩
    refine q3.wpOp q1 hS fun w' hS' => ⟨hS', ?_⟩
    refine wpAnyH_fixed n (R1 ++ R2) fuel _ _ w' (by simp at hl ⊢; omega) ?_ (fun y hy => ?_) ?_ hS' (fun w'' hS'' => ?_)
    · rw [List.map_append, e1, e4]; exact hcj
    · obtain ⟨r1, r2, r3⟩ := hR y (by rcases List.mem_append.1 hy with h | h <;> simp [h])
      exact ⟨r1, r2, r3.put r2 (Oper.apart_spec (ap y hy).2.1).1⟩
    · rw [List.pairwise_append]
      exact ⟨p1, p5, fun u hu v hv => p3 u hu v (by simp [hv])⟩
    · have hA : putAll (a.put x.2.1.dst x.2.2) (R1 ++ R2) = putAll a (R1 ++ x :: R2) := by
        have h1 := putAll_put x.2.1.dst x.2.2 R1 a (fun y hy => (Oper.apart_spec (ap y (by simp [hy])).2.1).2.1)
        unfold putAll at *
        rw [List.foldl_append, List.foldl_append, h1]
        rfl
      have hB : setAll (listed.setIfInBounds x.1 true) (R1 ++ R2) = setAll listed (R1 ++ x :: R2) := by
        have h1 := setAll_set x.1 R1 listed (fun y hy => (ap y (by simp [hy])).2.2)
        unfold setAll at *
        rw [List.foldl_append, List.foldl_append, h1]
        rfl
      rw [hA, hB]
      exact H w'' hS''
end
end Go.Proofs.Ytjdpnklnhiigpaa
