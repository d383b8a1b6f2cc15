/-
  A QUIET REGION INSIDE A ROUND OF A RANGE OVER A FUNCTION: a region that draws its order and only reads is walked once, in the text's order, in any fence (with a round, too), if it defers nothing. No program is named here.
-/
import Derived.Sort.BigQuietIn
import Derived.OwnWalkIn
import Derived.OrdersIn
import Derived.OrdersHeld
import Derived.RegionIn
import Derived.Deep.RegionHeld
import Derived.Test.YtlnplompnabmlaaRA01
namespace Go.Proofs.Ytlnplompnabmlaa
set_option maxRecDepth 100000
open Go.RowKit

section
variable {F : Fence} {n : Nat} {P : Program} {ops : Array Oper} {md : Region.Mode} {C : World → Prop}

/-- No operation defers. -/
def noDefer (l : List Oper) : Bool := l.all fun o => match o.op with | .defer _ => false | _ => true

theorem noDefer_at {o : Oper} (h : noDefer ops.toList = true) {i : Nat} (hi : ops[i]? = some o) : ∀ c, o.op ≠ .defer c := by
  intro c hc
  have hm : o ∈ ops.toList := by
    rw [Array.mem_toList_iff]
    exact Array.mem_of_getElem? hi
  have := List.all_eq_true.1 h o hm
  rw [hc] at this
  cases this

theorem wpIn_of_quiet_r {o : Oper} {a : Act} {K : Act → Prop} {K' : Act → World → Prop} {Q' : Exit → Act → World → Prop} {w : World} (hnd : ∀ c, o.op ≠ .defer c) (hw : C w) (h : ∀ a w', C w' → K a → K' a w')
    (ha : o.askedIn F P a C) (hh : o.quietIn F n P a C K) : o.wpIn F n P a w K' Q' := by
  obtain ⟨v, h1, h2⟩ := hh
  have h3 := h1 w hw
  unfold Oper.quietAtIn at h3
  unfold Oper.wpIn
  refine ⟨ha w hw, ?_⟩
  rw [Oper.semAt_plain F _ _ hnd]
  generalize (execOp a.eval o).run P w = r at *
  cases r with
  | ok x w' =>
    cases x <;> simp only [Oper.quietUponIn] at h3 <;> simp only [Oper.uponIn]
    case value u =>
      obtain ⟨e1, e2⟩ := h3
      rw [e1, e2]
      exact h _ _ hw h2
    case skip =>
      obtain ⟨e1, e2⟩ := h3
      rw [e1, ← e2]
      exact h _ _ hw h2
    case enter f args =>
      obtain ⟨e1, hd, hc⟩ := h3
      rw [e1]
      exact ⟨hd, hc.mono fun e w'' ⟨he, hw''⟩ => by subst he; exact h _ _ hw'' h2⟩
  | halt x w' => simp only [Oper.quietUponIn] at h3

theorem wpOpIn_of_qOpIn_r {i : Nat} {a : Act} {K : Act → Prop} {K' : Act → World → Prop} {Q' : Exit → Act → World → Prop} {w : World} (hnd : noDefer ops.toList = true) (hC : C w) (h : ∀ a w', C w' → K a → K' a w')
    (hh : qOpIn F n P ops C i K a) : wpOpIn F n P ops Q' i K' a w := by
  unfold qOpIn at hh
  unfold wpOpIn
  split
  · rename_i ho; simp only [ho] at hh; exact h _ _ hC hh
  · rename_i o ho
    simp only [ho] at hh
    obtain ⟨ha, hh⟩ := hh
    split
    · rename_i hw; simp only [hw, if_true] at hh; exact wpIn_of_quiet_r (noDefer_at hnd ho) hC h ha hh
    · rename_i hw; simp only [hw] at hh; exact ⟨ha w hC, h _ _ hC hh⟩

theorem wpAnyIn_of_quiet_r {Q : Act → Prop} {Q' : Exit → Act → World → Prop} (hnd : noDefer ops.toList = true) (hQ : ∀ a w, C w → Q a → Q' .normal a w) : ∀ (fuel : Nat) (listed : Array Bool) (a : Act) (w : World), C w →
    wpAnyQIn F n P md ops C Q fuel listed a → wpAnyIn F n P md ops Q' fuel listed a w
  | 0, _, _, _, hw, h => ⟨h.1, hQ _ _ hw h.2⟩
  | fuel + 1, _, _, _, hw, h => ⟨fun h0 => hQ _ _ hw (h.1 h0), fun i hi => wpOpIn_of_qOpIn_r hnd hw (fun a' w' hw' => wpAnyIn_of_quiet_r hnd hQ fuel _ a' w' hw') (h.2 i hi)⟩

theorem wpIn_region_quiet_r {id : Nat} {Q : Exit → Act → World → Prop} {a : Act} {w : World} {l : List Oper} (hnd : noDefer l = true) (hm : P.follows .mixedOrders = true) (hB : Region.lexB .any l.toArray = true)
    (h : wpQuietIn F n P l.toArray (fun w' => ∃ n, w' = w.drewN n) (fun a' => ∀ w', (∃ n, w' = w.drewN n) → Q .normal a' w') l a) : (Code.region id l.toArray true).wpIn F n P Q a w := by
  simp only [Region.lexB, Bool.and_eq_true] at hB
  refine wpIn_region_any hm (wpAnyIn_of_quiet_r (C := fun w' => ∃ n, w' = w.drewN n) (Q := fun a' => ∀ w', (∃ n, w' = w.drewN n) → Q .normal a' w') (by simpa using hnd) (fun _ w' hw' h => h w' hw') _ _ _ _ ⟨1, rfl⟩ ?_)
  have := wpAnyQIn_lex (F := F) (n := n) (C := fun w' => ∃ n, w' = w.drewN n) (md := .any) hB.1 l 0 (Array.replicate l.length false) a (by simp) (by simpa using hB.2) h
  simpa using this
end
end Go.Proofs.Ytlnplompnabmlaa

/-
  A REGION THAT DRAWS ITS ORDER, INSIDE A FENCE AND INSIDE A ROUND OF A RANGE OVER A FUNCTION, WHOSE READS ARE TAKEN FIRST: as 'wpAnyH' (the library's law for the walk without a fence), for 'wpIn', of operations that defer nothing. No program is named here.
-/
namespace Go.Proofs.Ytlnplompnabmlaa
set_option maxRecDepth 100000
open Go.RowKit

section
variable {F : Fence} {n : Nat} {P : Program} {ops : Array Oper} {Q : Exit → Act → World → Prop} {md : Region.Mode} {S : World → Prop}

/-- In every world that meets S the operation leaves v in its slot and turns nothing; it is about to call nothing. -/
def HeldAt (P : Program) (ops : Array Oper) (S : World → Prop) (o : Oper) (v : Value) (a : Act) : Prop := YieldsIf P ops S o v a ∧ ∀ w, o.about P w a.eval = none

theorem HeldAt.step {i : Nat} {o : Oper} {v : Value} {a : Act} (hi : ops[i]? = some o) (hnd : ∀ c, o.op ≠ .defer c) (hy : HeldAt P ops S o v a)
    {K : Act → World → Prop} {w : World} (hS : S w) (h : K (a.put o.dst v) w) : wpOpIn F n P ops Q i K a w := by
  have hab : ∀ f, o.about P w a.eval = some f → F.fn f := fun f hf => by rw [hy.2 w] at hf; cases hf
  unfold wpOpIn
  simp only [hi]
  rcases hy.1 with ⟨h1, h2⟩ | ⟨h1, rfl⟩
  · rw [if_pos h1]
    refine ⟨hab, ?_⟩
    rw [Oper.semAt_plain F _ _ hnd, h2 w hS]
    exact h
  · rw [if_neg (by simp [h1])]
    exact ⟨hab, h⟩

theorem HeldAt.other {o : Oper} {v : Value} {a a' : Act} (hy : HeldAt P ops S o v a) (he : execOp a'.eval o = execOp a.eval o)
    (hw : Region.wanted o (yielded ops a'.tmps) = Region.wanted o (yielded ops a.tmps)) (hb : ∀ w, o.about P w a'.eval = o.about P w a.eval) : HeldAt P ops S o v a' :=
  ⟨hy.1.of_same he hw, fun w => (hb w).trans (hy.2 w)⟩

/-- An operation apart from one that is held: it may come up first. -/
theorem wpOpIn_ahead {j : Nat} {oi oj : Oper} {v : Value} (hj : ops[j]? = some oj) (hnd : ∀ c, oj.op ≠ .defer c) (hap : oi.apart ops oj = true) (hsi : ∀ cs b, oi.op ≠ .select cs b) (hsj : ∀ cs b, oj.op ≠ .select cs b)
    (hQ : ∀ c a w, Q (.panic c) (a.put oi.dst v) w → Q (.panic c) a w) {K : Act → World → Prop} {a : Act} {w : World} (hy : HeldAt P ops S oi v a)
    (h : wpOpIn F n P ops Q j K (a.put oi.dst v) w) : wpOpIn F n P ops Q j (fun a' w' => HeldAt P ops S oi v a' ∧ K (a'.put oi.dst v) w') a w := by
  obtain ⟨k1, k2, k3⟩ := Oper.apart_spec hap
  have stays : ∀ (a : Act), HeldAt P ops S oi v a → ∀ u, HeldAt P ops S oi v (a.put oj.dst u) := fun a hy u => hy.other (execOp_put oi hsi a oj.dst u k3) (wanted_put oi a oj.dst u k3) (fun w => about_put oi w a oj.dst u k3)
  have turn : ∀ (a : Act) u, (a.put oj.dst u).put oi.dst v = (a.put oi.dst v).put oj.dst u := fun a u => (Act.put_comm a v u k2).symm
  have staysD : ∀ d, HeldAt P ops S oi v { a with defers := d :: a.defers } := fun d => hy.other rfl rfl (fun _ => rfl)
  unfold wpOpIn at h ⊢
  simp only [hj] at h ⊢
  rw [wanted_put oj a oi.dst v k1, about_put oj w a oi.dst v k1] at h
  by_cases hw : Region.wanted oj (yielded ops a.tmps) = true
  · rw [if_pos hw] at h ⊢
    obtain ⟨h0, h⟩ := h
    rw [about_put oj w a oi.dst v k1] at h0
    refine ⟨h0, ?_⟩
    rw [Oper.semAt_plain F _ _ hnd, execOp_put oj hsj a oi.dst v k1] at h
    rw [Oper.semAt_plain F _ _ hnd]
    cases hr : (execOp a.eval oj).run P w with
    | ok x w' =>
      rw [hr] at h
      cases x <;> simp only [Oper.uponIn] at h ⊢
      case value u => exact ⟨stays a hy u, by rw [turn]; exact h⟩
      case skip => exact ⟨stays a hy _, by rw [turn]; exact h⟩
      case defer d => exact ⟨(staysD d).other (execOp_put oi hsi _ oj.dst _ k3) (wanted_put oi _ oj.dst _ k3) (fun w => about_put oi w _ oj.dst _ k3), by rw [turn, ← Act.put_defers]; exact h⟩
      case enter f args =>
        refine ⟨h.1, h.2.mono fun e w'' he => ?_⟩
        cases e with
        | returned u => exact ⟨stays a hy u, by rw [turn]; exact he⟩
        | panicked c => exact hQ _ _ _ he
        | outgrown => exact he
      case row row args => exact ⟨h.1, h.2.mono fun u w'' he => ⟨stays a hy u, by rw [turn]; exact he⟩⟩
      case round l f tmps assign body =>
        refine ⟨h.1, h.2.mono fun e w'' he => ?_⟩
        cases e with
        | returned u => exact ⟨stays a hy u, by rw [turn]; exact he⟩
        | panicked c => exact hQ _ _ _ he
        | outgrown => exact he
    | halt x w' =>
      rw [hr] at h
      cases x <;> simp only [Oper.uponIn] at h ⊢
      case panic u => exact hQ _ _ _ h
  · rw [if_neg hw] at h ⊢
    exact ⟨h.1, stays a hy _, by rw [turn]; exact h.2⟩

/-- Whatever order is picked from here on; S is shown behind each operation that is carried out. -/
def wpAnyHIn (F : Fence) (n : Nat) (P : Program) (md : Region.Mode) (ops : Array Oper) (Q : Exit → Act → World → Prop) (S : World → Prop) : Nat → Array Bool → Act → World → Prop
  | 0, listed, a, w => Region.ready md ops listed = [] ∧ Q .normal a w
  | k + 1, listed, a, w => (Region.ready md ops listed = [] → Q .normal a w) ∧
    ∀ i ∈ Region.ready md ops listed, wpOpIn F n P ops Q i (fun a' w' => S w' ∧ wpAnyHIn F n P md ops Q S k (listed.setIfInBounds i true) a' w') a w

theorem wpAnyIn_of_held : ∀ (k : Nat) (listed : Array Bool) (a : Act) (w : World), wpAnyHIn F n P md ops Q S k listed a w → wpAnyIn F n P md ops Q k listed a w
  | 0, _, _, _, h => h
  | k + 1, _, _, _, h => ⟨h.1, fun i hi => wpOpIn_mono (fun a' w' h' => wpAnyIn_of_held k _ a' w' h'.2) (h.2 i hi)⟩

theorem wpAnyHIn_first {i : Nat} {oi : Oper} {v : Value} (hi : ops[i]? = some oi) (hnd : noDefer ops.toList = true) (hsel : ∀ (j : Nat) (o : Oper) cs b, ops[j]? = some o → o.op ≠ .select cs b)
    (hQ : ∀ c a w, Q (.panic c) (a.put oi.dst v) w → Q (.panic c) a w) :
    ∀ (k : Nat) (listed : Array Bool) (a : Act) (w : World),
      (∀ j oj, ops[j]? = some oj → j ≠ i → listed.getD j true = false → (∀ e ∈ oj.after, Region.binds md e = true → e.on ≠ i) → oi.apart ops oj = true) →
      i ∈ Region.ready md ops listed → HeldAt P ops S oi v a → S w →
      wpAnyHIn F n P md ops Q S k (listed.setIfInBounds i true) (a.put oi.dst v) w → wpAnyHIn F n P md ops Q S (k + 1) listed a w
  | k, listed, a, w, hfree, hr, hy, hS, H => by
    refine ⟨fun h => (by rw [h] at hr; cases hr), fun j hj => ?_⟩
    by_cases hji : j = i
    · subst hji
      exact hy.step hi (noDefer_at hnd hi) hS ⟨hS, H⟩
    · have hj2 := ready_mono hj hji
      cases k with
      | zero => rw [H.1] at hj2; cases hj2
      | succ k =>
        obtain ⟨hjun, oj, hoj, hall⟩ := mem_ready.1 hj
        have hnot : ∀ e ∈ oj.after, Region.binds md e = true → e.on ≠ i := fun e he hb heq => by
          have h1 := hall e he hb
          have h0 := (mem_ready.1 hr).1
          rw [heq] at h1
          rw [Array.getD_eq_getD_getElem?] at h0 h1
          cases hl : listed[i]? with
          | none => rw [hl] at h1; cases h1
          | some b => rw [hl] at h0 h1; simp at h0 h1; rw [h0] at h1; cases h1
        refine wpOpIn_mono (fun a' w' h3 => ⟨h3.2.1, ?_⟩) (wpOpIn_ahead hoj (noDefer_at hnd hoj) (hfree j oj hoj hji hjun hnot) (fun cs b => hsel i oi cs b hi) (fun cs b => hsel j oj cs b hoj) hQ hy (H.2 j hj2))
        refine wpAnyHIn_first hi hnd hsel hQ k (listed.setIfInBounds j true) a' w' (fun q oq hq hqi hun hno => hfree q oq hq hqi ?_ hno) (ready_mono hr (Ne.symm hji)) h3.1 h3.2.1 ?_
        · by_cases hjq : j = q
          · subst hjq; exact hjun
          · rwa [getD_set_ne true hjq] at hun
        · rw [Array.setIfInBounds_comm _ _ hji]
          exact h3.2.2

/-- Number i is taken first. -/
theorem wpAnyHIn_take {i : Nat} {oi : Oper} {v : Value} {k : Nat} {listed : Array Bool} {a : Act} {w : World} (hi : ops[i]? = some oi) (hnd : noDefer ops.toList = true) (hs : Region.noSelect ops = true) (hf : Region.free md ops listed i = true)
    (hr : (Region.ready md ops listed).contains i = true) (hQ : ∀ c a w, Q (.panic c) (a.put oi.dst v) w → Q (.panic c) a w) (hb : ∀ w, oi.about P w a.eval = none) (hy : YieldsIf P ops S oi v a) (hS : S w)
    (h : wpAnyHIn F n P md ops Q S k (listed.setIfInBounds i true) (a.put oi.dst v) w) : wpAnyHIn F n P md ops Q S (k + 1) listed a w :=
  wpAnyHIn_first hi hnd (Region.noSelect_spec hs) hQ k listed a w (Region.free_spec hi hf) (by simpa using hr) ⟨hy, hb⟩ hS h

/-- Number i alone may come up. -/
theorem wpAnyHIn_next {i : Nat} {o : Oper} {k : Nat} {listed : Array Bool} {a : Act} {w : World} (hr : Region.ready md ops listed = [i]) (ho : ops[i]? = some o) (hw : Region.wanted o (yielded ops a.tmps) = true)
    (h : ∀ K' : Act → World → Prop, Shut (∀ a w, S w → (S w → wpAnyHIn F n P md ops Q S k (listed.setIfInBounds i true) a w) → K' a w) → Oper.wpIn F n P o a w K' Q) : wpAnyHIn F n P md ops Q S (k + 1) listed a w := by
  refine ⟨fun h0 => (by rw [hr] at h0; cases h0), fun j hj => ?_⟩
  rw [hr] at hj
  obtain rfl : j = i := by simpa using hj
  unfold wpOpIn
  simp only [ho]
  rw [if_pos hw]
  exact h _ (fun a w hS hW => ⟨hS, hW hS⟩)
theorem wpAnyHIn_done {listed : Array Bool} {a : Act} {w : World} (hr : Region.ready md ops listed = []) (h : Q .normal a w) : ∀ k, wpAnyHIn F n P md ops Q S k listed a w
  | 0 => ⟨hr, h⟩
  | _ + 1 => ⟨fun _ => h, by rw [hr]; simp⟩
theorem wpIn_region_held {id : Nat} {a : Act} {w : World} (hm : P.follows .mixedOrders = true) (hS : S w.drew) (h : S w.drew → wpAnyHIn F n P .any ops Q S ops.size (Array.replicate ops.size false) a w.drew) : (Code.region id ops true).wpIn F n P Q a w :=
  wpIn_region_any hm (wpAnyIn_of_held _ _ _ _ (h hS))
end
end Go.Proofs.Ytlnplompnabmlaa

/-
  LAYER 4 (utf), plain: the form of a scalar at the front of a list of bytes. No program is named here.
-/
namespace Go.Proofs.Ytlnplompnabmlaa.U
set_option maxRecDepth 100000

/-- A byte that may only stand behind a form's first. -/
def cont (b : UInt8) : Bool := decide (128 ≤ b.toNat) && decide (b.toNat < 192)
def scalar (r : Int) : Bool := decide (0 ≤ r) && decide (r < 55296) || decide (57343 < r) && decide (r ≤ 1114111)
def wideOf (r : Nat) : Nat := if r < 128 then 1 else if r < 2048 then 2 else if r < 65536 then 3 else 4
/-- n bytes more, six bits each. -/
def acc : Nat → Nat → List UInt8 → Option Nat
  | r, 0, _ => some r
  | _, _ + 1, [] => none
  | r, n + 1, b :: t => if cont b then acc (r * 64 + (b.toNat - 128)) n t else none
def fin (n : Nat) : Option Nat → Option (Nat × Nat)
  | none => none
  | some r => if scalar (r : Int) && wideOf r == n then some (r, n) else none
/-- The scalar whose form stands at the front, and how many bytes it has. -/
def dec : List UInt8 → Option (Nat × Nat)
  | [] => none
  | a :: t =>
    if a.toNat < 128 then some (a.toNat, 1)
    else if a.toNat < 192 then none
    else if a.toNat < 224 then fin 2 (acc (a.toNat - 192) 1 t)
    else if a.toNat < 240 then fin 3 (acc (a.toNat - 224) 2 t)
    else if a.toNat < 248 then fin 4 (acc (a.toNat - 240) 3 t)
    else none

theorem acc_short : ∀ (n r : Nat) (l : List UInt8), l.length < n → acc r n l = none
  | 0, _, _, h => absurd h (Nat.not_lt_zero _)
  | n + 1, _, [], _ => rfl
  | n + 1, r, b :: t, h => by
    rw [acc]
    split
    · exact acc_short n _ t (by simpa using h)
    · rfl
theorem acc_len {n r x : Nat} {l : List UInt8} (h : acc r n l = some x) : n ≤ l.length := by
  by_cases hl : l.length < n
  · rw [acc_short n r l hl] at h; cases h
  · omega
theorem acc_lt : ∀ (n r : Nat) (l : List UInt8) (x B : Nat), acc r n l = some x → r < B → x < B * 64 ^ n
  | 0, r, l, x, B, h, hr => by simp [acc] at h; subst h; simpa using hr
  | n + 1, _, [], _, _, h, _ => by simp [acc] at h
  | n + 1, r, b :: t, x, B, h, hr => by
    rw [acc] at h
    split at h
    · have := acc_lt n _ t x (B * 64) h (by have := b.toNat_lt; rename_i hc; simp [cont] at hc; omega)
      rw [Nat.pow_succ, Nat.mul_comm (64 ^ n) 64, ← Nat.mul_assoc]
      exact this
    · cases h

theorem fin_some {n m r : Nat} {o : Option Nat} (h : fin n o = some (r, m)) : o = some r ∧ m = n ∧ scalar (r : Int) = true ∧ wideOf r = n := by
  cases o with
  | none => cases h
  | some x =>
    rw [fin] at h
    split at h
    · rename_i hc
      simp only [Bool.and_eq_true, beq_iff_eq] at hc
      simp only [Option.some.injEq, Prod.mk.injEq] at h
      obtain ⟨rfl, rfl⟩ := h
      exact ⟨rfl, rfl, hc.1, hc.2⟩
    · cases h

theorem scalar_small {r : Nat} (h : r < 55296) : scalar (r : Int) = true := by simp [scalar]; omega

theorem dec_some {l : List UInt8} {r n : Nat} (h : dec l = some (r, n)) : 1 ≤ n ∧ n ≤ 4 ∧ n ≤ l.length ∧ scalar (r : Int) = true ∧ wideOf r = n ∧ r ≤ 1114111 := by
  cases l with
  | nil => cases h
  | cons a t =>
    rw [dec] at h
    have sc : ∀ {r : Nat}, scalar (r : Int) = true → r ≤ 1114111 := by
      intro r hr; simp [scalar] at hr; omega
    split at h
    · simp only [Option.some.injEq, Prod.mk.injEq] at h
      obtain ⟨rfl, rfl⟩ := h
      exact ⟨by omega, by omega, by simp, scalar_small (by omega), by rw [wideOf, if_pos (by omega)], by omega⟩
    split at h
    · cases h
    split at h
    · obtain ⟨h1, rfl, h3, h4⟩ := fin_some h
      have := acc_len h1
      exact ⟨by omega, by omega, by simp; omega, h3, h4, sc h3⟩
    split at h
    · obtain ⟨h1, rfl, h3, h4⟩ := fin_some h
      have := acc_len h1
      exact ⟨by omega, by omega, by simp; omega, h3, h4, sc h3⟩
    split at h
    · obtain ⟨h1, rfl, h3, h4⟩ := fin_some h
      have := acc_len h1
      exact ⟨by omega, by omega, by simp; omega, h3, h4, sc h3⟩
    · cases h

/-- The form of a scalar, as the document writes it. -/
def form (r : Nat) : List UInt8 :=
  if r < 128 then [UInt8.ofNat r]
  else if r < 2048 then [UInt8.ofNat (192 + r / 64), UInt8.ofNat (128 + r % 64)]
  else if r < 65536 then [UInt8.ofNat (224 + r / 4096), UInt8.ofNat (128 + r / 64 % 64), UInt8.ofNat (128 + r % 64)]
  else [UInt8.ofNat (240 + r / 262144), UInt8.ofNat (128 + r / 4096 % 64), UInt8.ofNat (128 + r / 64 % 64), UInt8.ofNat (128 + r % 64)]

theorem form_length (r : Nat) : (form r).length = wideOf r := by
  unfold form wideOf
  repeat (first | split | rfl)

theorem ofNat_toNat {n : Nat} (h : n < 256) : (UInt8.ofNat n).toNat = n := by
  simp [UInt8.toNat_ofNat']; omega
theorem u8_eq {a : UInt8} {n : Nat} (hn : n < 256) : a = UInt8.ofNat n ↔ a.toNat = n := by
  constructor
  · rintro rfl; exact ofNat_toNat hn
  · rintro rfl; simp

/-- What stands at the front is told just if it begins with the form of a scalar. -/
theorem dec_iff (l : List UInt8) (r n : Nat) : dec l = some (r, n) ↔ scalar (r : Int) = true ∧ wideOf r = n ∧ l.take n = form r := by
  constructor
  · intro h
    obtain ⟨h1, h2, h3, h4, h5, h6⟩ := dec_some h
    refine ⟨h4, h5, ?_⟩
    cases l with
    | nil => cases h
    | cons a t =>
      have ha := a.toNat_lt
      rw [dec] at h
      split at h
      · simp only [Option.some.injEq, Prod.mk.injEq] at h
        obtain ⟨rfl, rfl⟩ := h
        rw [form, if_pos (by omega)]
        simp
      split at h
      · cases h
      split at h
      · obtain ⟨g1, rfl, g3, g4⟩ := fin_some h
        obtain ⟨b, t, rfl⟩ : ∃ b t', t = b :: t' := by cases t with | nil => cases g1 | cons b t => exact ⟨b, t, rfl⟩
        have hb := b.toNat_lt
        simp only [acc] at g1
        split at g1
        · rename_i hc
          simp [cont] at hc
          simp only [Option.some.injEq] at g1
          simp only [wideOf] at g4
          rw [form, if_neg (by split at g4 <;> omega), if_pos (by split at g4 <;> (try split at g4) <;> (try split at g4) <;> omega)]
          simp only [List.take_succ_cons, List.take_zero, List.cons.injEq, and_true]
          exact ⟨(u8_eq (by omega)).2 (by omega), (u8_eq (by omega)).2 (by omega)⟩
        · cases g1
      split at h
      · obtain ⟨g1, rfl, g3, g4⟩ := fin_some h
        obtain ⟨b, t, rfl⟩ : ∃ b t', t = b :: t' := by cases t with | nil => cases g1 | cons b t => exact ⟨b, t, rfl⟩
        have hb := b.toNat_lt
        simp only [acc] at g1
        split at g1
        · rename_i hc
          simp [cont] at hc
          obtain ⟨c, t, rfl⟩ : ∃ b t', t = b :: t' := by cases t with | nil => cases g1 | cons b t => exact ⟨b, t, rfl⟩
          have hc' := c.toNat_lt
          simp only [acc] at g1
          split at g1
          · rename_i hd
            simp [cont] at hd
            simp only [Option.some.injEq] at g1
            simp only [wideOf] at g4
            have q1 : ¬ r < 128 := by split at g4 <;> omega
            have q2 : ¬ r < 2048 := by rw [if_neg q1] at g4; split at g4 <;> omega
            have q3 : r < 65536 := by rw [if_neg q1, if_neg q2] at g4; split at g4 <;> omega
            rw [form, if_neg q1, if_neg q2, if_pos q3]
            simp only [List.take_succ_cons, List.take_zero, List.cons.injEq, and_true]
            exact ⟨(u8_eq (by omega)).2 (by omega), (u8_eq (by omega)).2 (by omega), (u8_eq (by omega)).2 (by omega)⟩
          · cases g1
        · cases g1
      split at h
      · obtain ⟨g1, rfl, g3, g4⟩ := fin_some h
        obtain ⟨b, t, rfl⟩ : ∃ b t', t = b :: t' := by cases t with | nil => cases g1 | cons b t => exact ⟨b, t, rfl⟩
        have hb := b.toNat_lt
        simp only [acc] at g1
        split at g1
        · rename_i hc
          simp [cont] at hc
          obtain ⟨c, t, rfl⟩ : ∃ b t', t = b :: t' := by cases t with | nil => cases g1 | cons b t => exact ⟨b, t, rfl⟩
          have hc' := c.toNat_lt
          simp only [acc] at g1
          split at g1
          · rename_i hd
            simp [cont] at hd
            obtain ⟨d, t, rfl⟩ : ∃ b t', t = b :: t' := by cases t with | nil => cases g1 | cons b t => exact ⟨b, t, rfl⟩
            have hd' := d.toNat_lt
            simp only [acc] at g1
            split at g1
            · rename_i he
              simp [cont] at he
              simp only [Option.some.injEq] at g1
              simp only [wideOf] at g4
              have q1 : ¬ r < 128 := by split at g4 <;> omega
              have q2 : ¬ r < 2048 := by rw [if_neg q1] at g4; split at g4 <;> omega
              have q3 : ¬ r < 65536 := by rw [if_neg q1, if_neg q2] at g4; split at g4 <;> omega
              rw [form, if_neg q1, if_neg q2, if_neg q3]
              simp only [List.take_succ_cons, List.take_zero, List.cons.injEq, and_true]
              exact ⟨(u8_eq (by omega)).2 (by omega), (u8_eq (by omega)).2 (by omega), (u8_eq (by omega)).2 (by omega), (u8_eq (by omega)).2 (by omega)⟩
            · cases g1
          · cases g1
        · cases g1
      · cases h
  · rintro ⟨h1, rfl, h3⟩
    have hs : r ≤ 1114111 := by simp [scalar] at h1; omega
    have key : ∀ m, fin m (some r) = if wideOf r == m then some (r, m) else none := by intro m; simp [fin, h1]
    unfold form at h3
    unfold wideOf at h3 ⊢
    by_cases q1 : r < 128
    · rw [if_pos q1, if_pos q1] at h3
      rw [if_pos q1]
      cases l with
      | nil => cases h3
      | cons a t =>
        simp only [List.take_succ_cons, List.take_zero, List.cons.injEq, and_true] at h3
        have := (u8_eq (by omega)).1 h3
        rw [dec, if_pos (by omega), this]
    rw [if_neg q1, if_neg q1] at h3
    rw [if_neg q1]
    by_cases q2 : r < 2048
    · rw [if_pos q2, if_pos q2] at h3
      rw [if_pos q2]
      rcases l with _ | ⟨a, _ | ⟨b, t⟩⟩
      · cases h3
      · simp at h3
      · simp only [List.take_succ_cons, List.take_zero, List.cons.injEq, and_true] at h3
        have ha := (u8_eq (by omega)).1 h3.1
        have hb := (u8_eq (by omega)).1 h3.2
        rw [dec, if_neg (by omega), if_neg (by omega), if_pos (by omega), acc, if_pos (by simp [cont]; omega), acc]
        rw [show (a.toNat - 192) * 64 + (b.toNat - 128) = r by omega, key, wideOf, if_neg q1, if_pos q2]
        rfl
    rw [if_neg q2, if_neg q2] at h3
    rw [if_neg q2]
    by_cases q3 : r < 65536
    · rw [if_pos q3, if_pos q3] at h3
      rw [if_pos q3]
      rcases l with _ | ⟨a, _ | ⟨b, _ | ⟨c, t⟩⟩⟩
      · cases h3
      · simp at h3
      · simp at h3
      · simp only [List.take_succ_cons, List.take_zero, List.cons.injEq, and_true] at h3
        have ha := (u8_eq (by omega)).1 h3.1
        have hb := (u8_eq (by omega)).1 h3.2.1
        have hc := (u8_eq (by omega)).1 h3.2.2
        rw [dec, if_neg (by omega), if_neg (by omega), if_neg (by omega), if_pos (by omega), acc, if_pos (by simp [cont]; omega), acc, if_pos (by simp [cont]; omega), acc]
        rw [show ((a.toNat - 224) * 64 + (b.toNat - 128)) * 64 + (c.toNat - 128) = r by omega, key, wideOf, if_neg q1, if_neg q2, if_pos q3]
        rfl
    · rw [if_neg q3, if_neg q3] at h3
      rw [if_neg q3]
      rcases l with _ | ⟨a, _ | ⟨b, _ | ⟨c, _ | ⟨d, t⟩⟩⟩⟩
      · cases h3
      · simp at h3
      · simp at h3
      · simp at h3
      · simp only [List.take_succ_cons, List.take_zero, List.cons.injEq, and_true] at h3
        have ha := (u8_eq (by omega)).1 h3.1
        have hb := (u8_eq (by omega)).1 h3.2.1
        have hc := (u8_eq (by omega)).1 h3.2.2.1
        have hd := (u8_eq (by omega)).1 h3.2.2.2
        rw [dec, if_neg (by omega), if_neg (by omega), if_neg (by omega), if_neg (by omega), if_pos (by omega), acc, if_pos (by simp [cont]; omega), acc, if_pos (by simp [cont]; omega), acc, if_pos (by simp [cont]; omega), acc]
        rw [show (((a.toNat - 240) * 64 + (b.toNat - 128)) * 64 + (c.toNat - 128)) * 64 + (d.toNat - 128) = r by omega, key, wideOf, if_neg q1, if_neg q2, if_neg q3]
        rfl
end Go.Proofs.Ytlnplompnabmlaa.U

/-
  LAYER 4 (utf), plain: the forms of a text, one behind the other, up to the first that is none.
-/
namespace Go.Proofs.Ytlnplompnabmlaa.U
set_option maxRecDepth 100000

def rsN : Nat → List UInt8 → List (Nat × Nat)
  | 0, _ => []
  | f + 1, l => match dec l with
    | none => []
    | some (r, n) => (r, n) :: rsN f (l.drop n)
/-- The scalars from the front, with the lengths of their forms. -/
def rs (l : List UInt8) : List (Nat × Nat) := rsN l.length l
/-- How many bytes they take. -/
def tot (l : List UInt8) : Nat := ((rs l).map (·.2)).sum

theorem dec_nil : dec [] = none := rfl
theorem rsN_fuel : ∀ (f g : Nat) (l : List UInt8), l.length ≤ f → l.length ≤ g → rsN f l = rsN g l
  | 0, 0, _, _, _ => rfl
  | 0, g + 1, l, h, _ => by
    obtain rfl : l = [] := List.length_eq_zero_iff.1 (by omega)
    rw [rsN, rsN, dec_nil]
  | f + 1, 0, l, _, h => by
    obtain rfl : l = [] := List.length_eq_zero_iff.1 (by omega)
    rw [rsN, rsN, dec_nil]
  | f + 1, g + 1, l, h1, h2 => by
    rw [rsN, rsN]
    cases h : dec l with
    | none => rfl
    | some x =>
      obtain ⟨r, n⟩ := x
      have := dec_some h
      simp only
      rw [rsN_fuel f g (l.drop n) (by simp; omega) (by simp; omega)]
theorem rs_none {l : List UInt8} (h : dec l = none) : rs l = [] := by
  unfold rs
  cases hl : l.length with
  | zero => rfl
  | succ k => rw [rsN, h]
theorem rs_some {l : List UInt8} {r n : Nat} (h : dec l = some (r, n)) : rs l = (r, n) :: rs (l.drop n) := by
  have h1 := dec_some h
  unfold rs
  obtain ⟨k, hk⟩ : ∃ k, l.length = k + 1 := ⟨l.length - 1, by omega⟩
  rw [hk, rsN, h]
  simp only
  rw [rsN_fuel k (l.drop n).length (l.drop n) (by simp; omega) (by simp)]
theorem tot_none {l : List UInt8} (h : dec l = none) : tot l = 0 := by rw [tot, rs_none h]; rfl
theorem tot_some {l : List UInt8} {r n : Nat} (h : dec l = some (r, n)) : tot l = n + tot (l.drop n) := by rw [tot, rs_some h]; simp [tot]
theorem tot_le : ∀ (k : Nat) (l : List UInt8), l.length ≤ k → tot l ≤ l.length
  | 0, l, h => by
    obtain rfl : l = [] := List.length_eq_zero_iff.1 (by omega)
    simp [tot, rs, rsN]
  | k + 1, l, h => by
    cases hd : dec l with
    | none => rw [tot_none hd]; omega
    | some x =>
      obtain ⟨r, n⟩ := x
      have h1 := dec_some hd
      rw [tot_some hd]
      have := tot_le k (l.drop n) (by simp; omega)
      simp at this
      omega
theorem tot_length (l : List UInt8) : tot l ≤ l.length := tot_le _ l (Nat.le_refl _)
theorem tot_nil : tot [] = 0 := rfl
end Go.Proofs.Ytlnplompnabmlaa.U
