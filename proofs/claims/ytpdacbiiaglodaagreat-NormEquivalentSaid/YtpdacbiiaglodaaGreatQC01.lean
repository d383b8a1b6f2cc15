/-
  LAYER 6 (norm), plain: lists sorted stably by a key; exchanges in a row, as lists; insertion. No program, no world.
-/
import Derived.Sort.Defs
import Derived.Laws.BitsLemmas
namespace Go.Proofs.YtpdacbiiaglodaaGreat
set_option maxRecDepth 100000
open Go.Sort

section
variable {α : Type} (key : α → Int)

def Srt (l : List α) : Prop := l.Pairwise fun x y => key x ≤ key y
/-- M has, of each key, what L has, in its order. -/
def Flt (L M : List α) : Prop := ∀ k, M.filter (fun x => decide (key x = k)) = L.filter (fun x => decide (key x = k))
/-- M is L, sorted stably. -/
def StM (L M : List α) : Prop := Flt key L M ∧ Srt key M ∧ M.length = L.length

theorem Flt.refl (L : List α) : Flt key L L := fun _ => rfl
variable {key}
theorem Flt.trans {L M N : List α} (h : Flt key L M) (g : Flt key M N) : Flt key L N := fun k => (g k).trans (h k)
theorem Flt.append {L M L' M' : List α} (h : Flt key L M) (g : Flt key L' M') : Flt key (L ++ L') (M ++ M') := fun k => by rw [List.filter_append, List.filter_append, h k, g k]
theorem Flt.mem {L M : List α} (h : Flt key L M) {x : α} : x ∈ M ↔ x ∈ L := by
  have := h (key x)
  constructor
  · intro hx
    have : x ∈ L.filter (fun y => decide (key y = key x)) := by rw [← this]; exact List.mem_filter.2 ⟨hx, by simp⟩
    exact (List.mem_filter.1 this).1
  · intro hx
    have : x ∈ M.filter (fun y => decide (key y = key x)) := by rw [this]; exact List.mem_filter.2 ⟨hx, by simp⟩
    exact (List.mem_filter.1 this).1
/-- Two lists whose elements of one stand strictly below those of the other may be exchanged. -/
theorem Flt.comm {A B : List α} (h : ∀ x ∈ A, ∀ y ∈ B, key y < key x) : Flt key (A ++ B) (B ++ A) := fun k => by
  rw [List.filter_append, List.filter_append]
  by_cases ha : A.filter (fun x => decide (key x = k)) = []
  · rw [ha]; simp
  · by_cases hb : B.filter (fun x => decide (key x = k)) = []
    · rw [hb]; simp
    · exfalso
      obtain ⟨x, hx⟩ := List.exists_mem_of_ne_nil _ ha
      obtain ⟨y, hy⟩ := List.exists_mem_of_ne_nil _ hb
      have h1 := List.mem_filter.1 hx
      have h2 := List.mem_filter.1 hy
      have := h x h1.1 y h2.1
      have e1 := of_decide_eq_true h1.2
      have e2 := of_decide_eq_true h2.2
      omega

theorem StM.trans {L M N : List α} (h : Flt key L M) (hl : M.length = L.length) (g : StM key M N) : StM key L N := ⟨h.trans g.1, g.2.1, g.2.2.trans hl⟩
theorem StM.self {L : List α} (h : Srt key L) : StM key L L := ⟨Flt.refl key L, h, rfl⟩

theorem srt_append {A B : List α} : Srt key (A ++ B) ↔ Srt key A ∧ Srt key B ∧ ∀ x ∈ A, ∀ y ∈ B, key x ≤ key y := List.pairwise_append

theorem srt_lastOf {S : List α} (hs : Srt key S) {z : α} (hz : S.getLast? = some z) : ∀ y ∈ S, key y ≤ key z := by
  intro y hy
  obtain ⟨S', rfl⟩ := List.getLast?_eq_some_iff.1 hz
  rcases List.mem_append.1 hy with h1 | h1
  · exact (srt_append.1 hs).2.2 y h1 z (by simp)
  · rw [List.mem_singleton.1 h1]; exact Int.le_refl _
theorem srt_headOf {S : List α} (hs : Srt key S) {z : α} (hz : S.head? = some z) : ∀ y ∈ S, key z ≤ key y := by
  intro y hy
  cases S with
  | nil => simp at hz
  | cons a t =>
    cases hz
    rcases List.mem_cons.1 hy with rfl | h1
    · exact Int.le_refl _
    · exact (List.pairwise_cons.1 hs).1 y h1
theorem last_of_mem {S : List α} {y : α} (h : y ∈ S) : ∃ z, S.getLast? = some z := by
  cases hs : S.getLast? with
  | none => rw [List.getLast?_eq_none_iff.1 hs] at h; simp at h
  | some z => exact ⟨z, rfl⟩
theorem head_of_mem {S : List α} {y : α} (h : y ∈ S) : ∃ z, S.head? = some z := by
  cases S with
  | nil => simp at h
  | cons a t => exact ⟨a, rfl⟩
/-- Two halves, each merged, are the whole, merged. -/
theorem merge_halves {U1 U2 V1 V2 M1 M2 : List α} (hU : Srt key (U1 ++ U2)) (hV : Srt key (V1 ++ V2)) (h1 : StM key (U1 ++ V1) M1) (h2 : StM key (U2 ++ V2) M2)
    (hx : ∀ v, V1.getLast? = some v → ∀ u, U2.head? = some u → key v < key u) (hy : ∀ u, U1.getLast? = some u → ∀ v, V2.head? = some v → key u ≤ key v) :
    StM key ((U1 ++ U2) ++ (V1 ++ V2)) (M1 ++ M2) := by
  have a := srt_append.1 hU
  have b := srt_append.1 hV
  have lo : ∀ v ∈ V1, ∀ u ∈ U2, key v < key u := by
    intro v hv u hu
    obtain ⟨v', e1⟩ := last_of_mem hv
    obtain ⟨u', e2⟩ := head_of_mem hu
    have := srt_lastOf b.1 e1 v hv
    have := srt_headOf a.2.1 e2 u hu
    have := hx v' e1 u' e2
    omega
  have up : ∀ u ∈ U1, ∀ v ∈ V2, key u ≤ key v := by
    intro u hu v hv
    obtain ⟨u', e1⟩ := last_of_mem hu
    obtain ⟨v', e2⟩ := head_of_mem hv
    have := srt_lastOf a.1 e1 u hu
    have := srt_headOf b.2.1 e2 v hv
    have := hy u' e1 v' e2
    omega
  refine ⟨?_, ?_, ?_⟩
  · have e : Flt key (U1 ++ ((U2 ++ V1) ++ V2)) (U1 ++ ((V1 ++ U2) ++ V2)) := Flt.append (Flt.refl key U1) (Flt.append (Flt.comm fun u hu v hv => lo v hv u hu) (Flt.refl key V2))
    have := Flt.append h1.1 h2.1
    rw [show U1 ++ ((U2 ++ V1) ++ V2) = (U1 ++ U2) ++ (V1 ++ V2) by simp, show U1 ++ ((V1 ++ U2) ++ V2) = (U1 ++ V1) ++ (U2 ++ V2) by simp] at e
    exact e.trans this
  · refine srt_append.2 ⟨h1.2.1, h2.2.1, ?_⟩
    intro x hx1 y hy1
    rcases List.mem_append.1 ((h1.1.mem).1 hx1) with p | p <;> rcases List.mem_append.1 ((h2.1.mem).1 hy1) with q | q
    · exact a.2.2 x p y q
    · exact up x p y q
    · have := lo x p y q; omega
    · exact b.2.2 x p y q
  · have := h1.2.2; have := h2.2.2; simp only [List.length_append] at *; omega

/-- One list only is sorted so. -/
theorem srt_unique : ∀ {M N : List α}, Srt key M → Srt key N → Flt key M N → M = N
  | [], N, _, _, h => by
    cases N with
    | nil => rfl
    | cons y t =>
      exfalso
      have := (h.mem (x := y)).1 (by simp)
      simp at this
  | x :: t, N, hM, hN, h => by
    cases N with
    | nil =>
      exfalso
      have := (h.mem (x := x)).2 (by simp)
      simp at this
    | cons y u =>
      have h1 := List.pairwise_cons.1 hM
      have h2 := List.pairwise_cons.1 hN
      have k1 : key y ≤ key x := by
        rcases List.mem_cons.1 ((h.mem (x := x)).2 (by simp)) with e | hx
        · rw [e]; exact Int.le_refl _
        · exact h2.1 x hx
      have k2 : key x ≤ key y := by
        rcases List.mem_cons.1 ((h.mem (x := y)).1 (by simp)) with e | hx
        · rw [e]; exact Int.le_refl _
        · exact h1.1 y hx
      have e : key x = key y := by omega
      have hk := h (key x)
      rw [List.filter_cons, List.filter_cons, if_pos (by simp [e]), if_pos (by simp)] at hk
      have exy : y = x := (List.cons.inj hk).1
      subst exy
      have ht : Flt key t u := fun k => by
        have := h k
        rw [List.filter_cons, List.filter_cons] at this
        split at this
        · exact (List.cons.inj this).2
        · exact this
      rw [srt_unique h1.2 h2.2 ht]
theorem StM.unique {L M N : List α} (h : StM key L M) (g : StM key L N) : M = N := srt_unique h.2.1 g.2.1 (fun k => (g.1 k).trans (h.1 k).symm)
end

section
variable {α : Type} [Inhabited α]

/-- An exchange, as lists. -/
theorem swp_list (d : Array α) (S T R : List α) (p q : α) (h : d.toList = S ++ p :: (T ++ q :: R)) : (swp d S.length (S.length + 1 + T.length)).toList = S ++ q :: (T ++ p :: R) := by
  have hs : d.size = S.length + 1 + T.length + 1 + R.length := by
    rw [← Array.length_toList, h]; simp; omega
  have e1 : d[S.length]! = p := by
    rw [getElem!_pos d S.length (by omega), ← Array.getElem_toList]; simp [h]
  have e2 : d[S.length + 1 + T.length]! = q := by
    rw [getElem!_pos d _ (by omega), ← Array.getElem_toList]
    simp only [h]
    rw [List.getElem_append_right (by omega)]
    simp only [show S.length + 1 + T.length - S.length = T.length + 1 by omega, List.getElem_cons_succ]
    rw [List.getElem_append_right (by omega)]
    simp
  unfold swp
  rw [e1, e2, Array.toList_setIfInBounds, Array.toList_setIfInBounds, h, List.set_append_right _ _ (by omega)]
  simp only [Nat.sub_self, List.set_cons_zero]
  rw [List.set_append_right _ _ (by omega)]
  simp only [show S.length + 1 + T.length - S.length = T.length + 1 by omega, List.set_cons_succ]
  rw [List.set_append_right _ _ (by omega)]
  simp
theorem swp_comm (d : Array α) (i j : Nat) : swp d i j = swp d j i := by
  by_cases e : i = j
  · rw [e]
  · apply Array.ext'
    unfold swp
    rw [Array.toList_setIfInBounds, Array.toList_setIfInBounds, Array.toList_setIfInBounds, Array.toList_setIfInBounds]
    exact List.set_comm _ _ e
theorem swp_list' (d : Array α) (S T R : List α) (p q : α) (h : d.toList = S ++ p :: (T ++ q :: R)) : (swp d (S.length + 1 + T.length) S.length).toList = S ++ q :: (T ++ p :: R) := by
  rw [swp_comm d _ _]
  exact swp_list d S T R p q h
theorem at_list (d : Array α) (S R : List α) (p : α) (h : d.toList = S ++ p :: R) : d[S.length]! = p := by
  have hs : d.size = S.length + 1 + R.length := by
    rw [← Array.length_toList, h]; simp; omega
  rw [getElem!_pos d S.length (by omega), ← Array.getElem_toList]; simp [h]
omit [Inhabited α] in
theorem size_list (d : Array α) (L : List α) (h : d.toList = L) : d.size = L.length := by rw [← h]; simp

/-! ### Insertion -/
variable {key : α → Int} {lt : α → α → Bool}
theorem insInner_list (hlt : ∀ x y, lt x y = true ↔ key x < key y) (X : List α) (x : α) : ∀ (n : Nat) (S R : List α) (d : Array α), S.length = n → d.toList = X ++ (S ++ x :: R) →
    ∃ S1 S2, S = S1 ++ S2 ∧ (∀ y ∈ S2, key x < key y) ∧ (∀ y, S1.getLast? = some y → key y ≤ key x) ∧ (insInner lt X.length (X.length + S.length) d).toList = X ++ (S1 ++ x :: (S2 ++ R))
  | 0, S, R, d, hn, h => by
    have : S = [] := List.length_eq_zero_iff.1 hn
    subst this
    refine ⟨[], [], rfl, by simp, by simp, ?_⟩
    have : insInner lt X.length (X.length + ([] : List α).length) d = d := by
      simp only [List.length_nil, Nat.add_zero]
      cases hX : X.length with
      | zero => rfl
      | succ k => rw [insInner]; simp
    rw [this, h]
    simp
  | n + 1, S, R, d, hn, h => by
    obtain ⟨S', y, rfl⟩ : ∃ S' y, S = S' ++ [y] := ⟨S.dropLast, S.getLast (by intro e; rw [e] at hn; simp at hn), (List.dropLast_concat_getLast _).symm⟩
    have hl : S'.length = n := by simpa using hn
    have h' : d.toList = (X ++ S') ++ y :: ([] ++ x :: R) := by rw [h]; simp
    have hx : d[X.length + S'.length + 1]! = x := by
      have := at_list d (X ++ S' ++ [y]) R x (by rw [h]; simp)
      simpa [Nat.add_assoc] using this
    have hy : d[X.length + S'.length]! = y := by
      have := at_list d (X ++ S') (x :: R) y (by rw [h]; simp)
      simpa using this
    rw [show X.length + (S' ++ [y]).length = (X.length + S'.length) + 1 by simp; omega, insInner, hx, hy]
    by_cases hc : key x < key y
    · rw [if_pos (by rw [(hlt x y).2 hc]; simp; omega)]
      have hsw := swp_list' d (X ++ S') [] R y x h'
      simp only [List.length_nil, Nat.add_zero, List.length_append] at hsw
      obtain ⟨S1, S2, rfl, q1, q2, q3⟩ := insInner_list hlt X x n S' (y :: R) (swp d (X.length + S'.length + 1) (X.length + S'.length)) hl (by rw [hsw]; simp)
      refine ⟨S1, S2 ++ [y], by simp, ?_, q2, ?_⟩
      · intro z hz
        rcases List.mem_append.1 hz with hz | hz
        · exact q1 z hz
        · rw [List.mem_singleton.1 hz]; exact hc
      · rw [q3]; simp
    · rw [if_neg (by rw [show lt x y = false by rw [← Bool.not_eq_true]; exact fun e => hc ((hlt x y).1 e)]; simp)]
      refine ⟨S' ++ [y], [], by simp, by simp, ?_, ?_⟩
      · intro z hz
        simp at hz
        subst hz
        omega
      · rw [h]; simp

omit [Inhabited α] in
theorem srt_last {S : List α} (hs : Srt key S) {x : α} (h : ∀ y, S.getLast? = some y → key y ≤ key x) : ∀ y ∈ S, key y ≤ key x := by
  intro y hy
  have hne : S ≠ [] := by intro e; rw [e] at hy; simp at hy
  obtain ⟨S', z, rfl⟩ : ∃ S' z, S = S' ++ [z] := ⟨S.dropLast, S.getLast hne, (List.dropLast_concat_getLast _).symm⟩
  have hz := h z (by simp)
  rcases List.mem_append.1 hy with h1 | h1
  · have := (srt_append.1 hs).2.2 y h1 z (by simp)
    omega
  · rw [List.mem_singleton.1 h1]; exact hz

omit [Inhabited α] in
/-- An element laid into a sorted list behind all that are not greater. -/
theorem StM.insert {L S S1 S2 : List α} {x : α} (h : StM key L S) (e : S = S1 ++ S2) (h2 : ∀ y ∈ S2, key x < key y) (h1 : ∀ y, S1.getLast? = some y → key y ≤ key x) : StM key (L ++ [x]) (S1 ++ x :: S2) := by
  subst e
  have hs := srt_append.1 h.2.1
  have h1' := srt_last hs.1 h1
  have hlen := h.2.2
  refine ⟨?_, ?_, by simp at hlen ⊢; omega⟩
  · refine (Flt.append h.1 (Flt.refl key [x])).trans ?_
    have : Flt key (S1 ++ (S2 ++ [x])) (S1 ++ ([x] ++ S2)) := Flt.append (Flt.refl key S1) (Flt.comm (fun a ha b hb => by rw [List.mem_singleton.1 hb]; exact h2 a ha))
    rw [List.append_assoc]
    exact this
  · refine srt_append.2 ⟨hs.1, List.pairwise_cons.2 ⟨fun y hy => by have := h2 y hy; omega, hs.2.1⟩, ?_⟩
    intro a ha b hb
    rcases List.mem_cons.1 hb with rfl | hb
    · exact h1' a ha
    · have := h1' a ha
      have := h2 b hb
      omega

theorem insOuter_list (hlt : ∀ x y, lt x y = true ↔ key x < key y) (X Y : List α) : ∀ (n : Nat) (T L S : List α) (d : Array α), T.length = n → d.toList = X ++ (S ++ (T ++ Y)) → StM key L S →
    ∃ M, StM key (L ++ T) M ∧ (insOuter lt X.length (X.length + S.length + T.length) (X.length + S.length) d).toList = X ++ (M ++ Y)
  | 0, T, L, S, d, hn, h, hS => by
    have : T = [] := List.length_eq_zero_iff.1 hn
    subst this
    refine ⟨S, by simpa using hS, ?_⟩
    rw [insOuter, if_neg (by simp), h]
    simp
  | n + 1, T, L, S, d, hn, h, hS => by
    cases T with
    | nil => simp at hn
    | cons x T =>
      have hl : T.length = n := by simpa using hn
      rw [insOuter, if_pos (by simp)]
      obtain ⟨S1, S2, e, q1, q2, q3⟩ := insInner_list hlt X x S.length S (T ++ Y) d rfl (by rw [h]; simp)
      have hM := hS.insert e q1 q2
      have hlen : (S1 ++ x :: S2).length = S.length + 1 := by rw [e]; simp; omega
      obtain ⟨M, m1, m2⟩ := insOuter_list hlt X Y n T (L ++ [x]) (S1 ++ x :: S2) (insInner lt X.length (X.length + S.length) d) hl (by rw [q3]; simp) hM
      refine ⟨M, by simpa using m1, ?_⟩
      rw [hlen] at m2
      rw [show X.length + S.length + (x :: T).length = X.length + (S.length + 1) + T.length by simp; omega]
      exact m2
theorem insertion_list (hlt : ∀ x y, lt x y = true ↔ key x < key y) (X T Y : List α) (d : Array α) (h : d.toList = X ++ (T ++ Y)) :
    ∃ M, StM key T M ∧ (Sort.insertionSort lt d X.length (X.length + T.length)).toList = X ++ (M ++ Y) := by
  cases T with
  | nil =>
    refine ⟨[], StM.self List.Pairwise.nil, ?_⟩
    rw [Sort.insertionSort, insOuter, if_neg (by simp), h]
  | cons x T =>
    obtain ⟨M, m1, m2⟩ := insOuter_list hlt X Y T.length T [x] [x] d rfl (by rw [h]; simp) (StM.self (List.pairwise_singleton _ _))
    refine ⟨M, by simpa using m1, ?_⟩
    rw [Sort.insertionSort]
    simp only [List.length_cons, List.length_nil, Nat.zero_add] at m2 ⊢
    rw [show X.length + (T.length + 1) = X.length + 1 + T.length by omega]
    exact m2
end
end Go.Proofs.YtpdacbiiaglodaaGreat

/-
  LAYER 5 (norms), plain: code points, Hangul, classes, decompositions, and what data may be. No program, no world.
-/
namespace Go.Proofs.YtpdacbiiaglodaaGreat
set_option maxRecDepth 100000

/-- from, to, class · code, a, b. -/
abbrev Cls := Int × Int × Int
abbrev Dec := Int × Int × Int

def scal (r : Int) : Bool := decide (0 ≤ r ∧ r < 55296 ∨ 57343 < r ∧ r ≤ 1114111)
def syl (r : Int) : Bool := decide (44032 ≤ r ∧ r ≤ 55203)
def jamo (r : Int) : Bool := decide (4352 ≤ r ∧ r ≤ 4370 ∨ 4449 ≤ r ∧ r ≤ 4469 ∨ 4519 < r ∧ r ≤ 4546)
/-- What a Hangul syllable comes to. -/
def hang (r : Int) : List Int :=
  let s := r - 44032
  [4352 + s / 588, 4449 + s % 588 / 28] ++ (if s % 28 = 0 then [] else [4519 + s % 28])
def byR (r : Int) : List Int := if syl r = true then hang r else [r]
theorem byR_ne (r : Int) : byR r ≠ [] := by unfold byR hang; split <;> simp

/-- The class of a code point: of the first range that has it. -/
def clsOf : List Cls → Int → Int
  | [], _ => 0
  | c :: t, r => if c.1 ≤ r ∧ r ≤ c.2.1 then c.2.2 else clsOf t r
/-- One range may be, behind a place. -/
def clOk (least : Int) (c : Cls) : Bool := scal c.1 && scal c.2.1 && decide (least ≤ c.1) && decide (c.1 ≤ c.2.1) && decide (1 ≤ c.2.2) && decide (c.2.2 ≤ 254)
def clsOk : Int → List Cls → Bool
  | _, [] => true
  | least, c :: t => clOk least c && clsOk (c.2.1 + 1) t

/-- A decomposition by one step. -/
def stp (d : List Dec) (r : Int) : Option Dec := d.find? fun x => decide (x.1 = r)
def codesOk (x : Dec) : Bool := scal x.1 && !syl x.1 && !jamo x.1 && scal x.2.1 && !decide (x.2.1 = 0) && scal x.2.2 && !syl x.2.2
/-- In so many steps it comes to the end. -/
def mb (d : List Dec) : Nat → Dec → Bool
  | 0, _ => false
  | n + 1, x => match stp d x.2.1 with
    | none => true
    | some y => mb d n y
def bOk (d : List Dec) (x : Dec) : Bool := decide (x.2.2 = 0) || (stp d x.2.2).isNone
/-- What a decomposition comes to, in so many steps. -/
def whl (d : List Dec) : Nat → Dec → List Int
  | 0, _ => []
  | n + 1, x => (match stp d x.2.1 with
    | none => byR x.2.1
    | some y => whl d n y) ++ (if x.2.2 = 0 then [] else [x.2.2])
def begins (c : List Cls) (d : List Dec) (x : Dec) : Bool := decide (clsOf c x.1 = 0) || !decide (clsOf c ((whl d 4 x).headD 0) = 0)
def decOk (c : List Cls) (d : List Dec) (least : Int) (x : Dec) : Bool := decide (least ≤ x.1) && codesOk x && (bOk d x && mb d 4 x) && begins c d x
def decsOk (c : List Cls) (d : List Dec) : Int → List Dec → Bool
  | _, [] => true
  | least, x :: t => decOk c d least x && decsOk c d (x.1 + 1) t
/-- Data that may be. -/
def good (c : List Cls) (d : List Dec) : Bool := decide (c.length ≤ 4000) && decide (d.length ≤ 8000) && clsOk 0 c && decsOk c d 0 d

theorem mb_whl {d : List Dec} : ∀ {n : Nat} {x : Dec}, mb d n x = true → ∀ k, whl d (n + k) x = whl d n x ∧ whl d n x ≠ []
  | 0, _, h, _ => by simp [mb] at h
  | n + 1, x, h, k => by
    rw [show n + 1 + k = (n + k) + 1 by omega, whl, whl]
    rw [mb] at h
    cases hs : stp d x.2.1 with
    | none => exact ⟨rfl, by simp [byR_ne]⟩
    | some y =>
      rw [hs] at h
      have := mb_whl h k
      simp only
      rw [this.1]
      exact ⟨rfl, by simp [this.2]⟩

theorem decsOk_mem {c : List Cls} {d : List Dec} : ∀ {l : List Dec} {least : Int}, decsOk c d least l = true → ∀ x ∈ l, decOk c d least x = true
  | [], _, _, x, hx => by cases hx
  | y :: t, least, h, x, hx => by
    rw [decsOk, Bool.and_eq_true] at h
    rcases List.mem_cons.1 hx with rfl | hx
    · exact h.1
    · have h2 := decsOk_mem h.2 x hx
      have h1 := h.1
      simp only [decOk, Bool.and_eq_true, decide_eq_true_eq] at h1 h2 ⊢
      exact ⟨⟨⟨by omega, h2.1.1.2⟩, h2.1.2⟩, h2.2⟩
/-- Codes rise. -/
theorem decsOk_rise {c : List Cls} {d : List Dec} : ∀ {l : List Dec} {least : Int}, decsOk c d least l = true → (l.map (·.1)).Pairwise (· < ·)
  | [], _, _ => List.Pairwise.nil
  | y :: t, least, h => by
    rw [decsOk, Bool.and_eq_true] at h
    refine List.Pairwise.cons (fun a ha => ?_) (decsOk_rise h.2)
    obtain ⟨x, hx, rfl⟩ := List.mem_map.1 ha
    have := decsOk_mem h.2 x hx
    simp only [decOk, Bool.and_eq_true, decide_eq_true_eq] at this
    show y.1 < x.1
    omega
end Go.Proofs.YtpdacbiiaglodaaGreat

/-
  LAYER 6 (norm), plain: canonical order of code points, pieces, streams. No program, no world.
-/
namespace Go.Proofs.YtpdacbiiaglodaaGreat
set_option maxRecDepth 100000

section
variable (f : Int → Int)

/-- A code point laid into a list from behind (the list lies turned round). -/
def insB (r : Int) : List Int → List Int
  | [] => [r]
  | y :: t => if 0 < f r ∧ f r < f y then y :: insB r t else r :: y :: t
def insR (out : List Int) (r : Int) : List Int := (insB f r out.reverse).reverse
/-- The canonical order. -/
def ord (l : List Int) : List Int := l.foldl (insR f) []

theorem insB_length (r : Int) : ∀ l, (insB f r l).length = l.length + 1
  | [] => rfl
  | y :: t => by rw [insB]; split <;> simp [insB_length r t]
theorem insR_length (out : List Int) (r : Int) : (insR f out r).length = out.length + 1 := by simp [insR, insB_length]
theorem foldl_length : ∀ (l out : List Int), (l.foldl (insR f) out).length = out.length + l.length
  | [], out => rfl
  | x :: t, out => by rw [List.foldl_cons, foldl_length t, insR_length, List.length_cons]; omega
theorem ord_length (l : List Int) : (ord f l).length = l.length := by simp [ord, foldl_length]

theorem insB_split (r : Int) : ∀ l : List Int, ∃ A B, l = A ++ B ∧ insB f r l = A ++ r :: B ∧ (∀ y ∈ A, 0 < f r ∧ f r < f y) ∧ (∀ y, B.head? = some y → ¬ (0 < f r ∧ f r < f y))
  | [] => ⟨[], [], rfl, rfl, by simp, by simp⟩
  | y :: t => by
    rw [insB]
    split
    · rename_i h
      obtain ⟨A, B, e, q1, q2, q3⟩ := insB_split r t
      refine ⟨y :: A, B, by rw [e]; rfl, by rw [q1]; rfl, ?_, q3⟩
      intro z hz
      rcases List.mem_cons.1 hz with rfl | hz
      · exact h
      · exact q2 z hz
    · rename_i h
      exact ⟨[], y :: t, rfl, rfl, by simp, by simpa using h⟩
/-- Where a code point comes to stand. -/
theorem insR_split (out : List Int) (r : Int) : ∃ S1 S2, out = S1 ++ S2 ∧ insR f out r = S1 ++ r :: S2 ∧ (∀ y ∈ S2, 0 < f r ∧ f r < f y) ∧ (∀ y, S1.getLast? = some y → ¬ (0 < f r ∧ f r < f y)) := by
  obtain ⟨A, B, e, q1, q2, q3⟩ := insB_split f r out.reverse
  refine ⟨B.reverse, A.reverse, ?_, ?_, ?_, ?_⟩
  · have := congrArg List.reverse e
    simpa using this
  · rw [insR, q1]; simp
  · intro y hy; exact q2 y (by simpa using hy)
  · intro y hy; exact q3 y (by simpa using hy)

theorem insB_stop (r x : Int) (P : List Int) (hx : f x ≤ 0) : ∀ Q : List Int, insB f r (Q ++ x :: P) = insB f r (Q ++ [x]) ++ P
  | [] => by
    have : ¬ (0 < f r ∧ f r < f x) := by omega
    rw [List.nil_append, List.nil_append, insB, insB, if_neg this, if_neg this]
    rfl
  | y :: Q => by
    rw [List.cons_append, List.cons_append, insB, insB, insB_stop r x P hx Q]
    split <;> simp
theorem insB_end (r x : Int) (hx : f x ≤ 0) : ∀ Q : List Int, ∃ Q', insB f r (Q ++ [x]) = Q' ++ [x]
  | [] => by
    have : ¬ (0 < f r ∧ f r < f x) := by omega
    exact ⟨[r], by rw [List.nil_append, insB, if_neg this]; rfl⟩
  | y :: Q => by
    obtain ⟨Q', e⟩ := insB_end r x hx Q
    rw [List.cons_append, insB, e]
    split
    · exact ⟨y :: Q', rfl⟩
    · exact ⟨r :: y :: Q, rfl⟩
theorem insR_stop (P Q : List Int) (x r : Int) (hx : f x ≤ 0) : ∃ Q', insR f (P ++ x :: Q) r = P ++ x :: Q' ∧ insR f (x :: Q) r = x :: Q' := by
  obtain ⟨Q', e⟩ := insB_end f r x hx Q.reverse
  refine ⟨Q'.reverse, ?_, ?_⟩
  · rw [insR, show (P ++ x :: Q).reverse = Q.reverse ++ x :: P.reverse by simp, insB_stop f r x P.reverse hx, e]; simp
  · rw [insR, show (x :: Q).reverse = Q.reverse ++ [x] by simp, e]; simp
theorem foldl_stop (P : List Int) (x : Int) (hx : f x ≤ 0) : ∀ (B Q : List Int), B.foldl (insR f) (P ++ x :: Q) = P ++ B.foldl (insR f) (x :: Q)
  | [], Q => rfl
  | r :: B, Q => by
    obtain ⟨Q', e1, e2⟩ := insR_stop f P Q x r hx
    rw [List.foldl_cons, List.foldl_cons, e1, e2]
    exact foldl_stop P x hx B Q'
/-- A starter parts the order. -/
theorem ord_split (A B : List Int) (x : Int) (hx : f x ≤ 0) : ord f (A ++ x :: B) = ord f A ++ ord f (x :: B) := by
  unfold ord
  rw [List.foldl_append, List.foldl_cons, List.foldl_cons]
  have h1 : ∀ out, insR f out x = out ++ [x] := by
    intro out
    obtain ⟨S1, S2, e, q1, q2, q3⟩ := insR_split f out x
    cases S2 with
    | nil => rw [q1, e]; simp
    | cons y t => have := q2 y (by simp); omega
  rw [h1, h1]
  have := foldl_stop f (A.foldl (insR f) []) x hx B []
  simpa using this

/-- One piece, in order: sorted stably. -/
theorem foldl_stm : ∀ (ms L S : List Int), StM f L S → (∀ m ∈ ms, 0 < f m) → StM f (L ++ ms) (ms.foldl (insR f) S)
  | [], L, S, h, _ => by simpa using h
  | m :: ms, L, S, h, hm => by
    rw [List.foldl_cons]
    obtain ⟨S1, S2, e, q1, q2, q3⟩ := insR_split f S m
    have hm0 := hm m (by simp)
    have := h.insert e (fun y hy => (q2 y hy).2) (fun y hy => by have := q3 y hy; omega)
    rw [← q1] at this
    have := foldl_stm ms (L ++ [m]) _ this (fun y hy => hm y (by simp [hy]))
    simpa using this
theorem ord_piece (x : Int) (ms : List Int) (hm : ∀ m ∈ ms, 0 < f m) : StM f (x :: ms) (ord f (x :: ms)) := by
  have h1 : insR f [] x = [x] := rfl
  unfold ord
  rw [List.foldl_cons, h1]
  exact foldl_stm f ms [x] [x] (StM.self (List.pairwise_singleton _ _)) hm
theorem ord_nil : ord f [] = [] := rfl

/-! ### A stream -/
/-- Code points come one by one: what is finished, what is held. -/
def psh : List Int → List Int → List Int × List Int
  | held, [] => ([], held)
  | held, x :: t => if f x = 0 then (ord f held ++ (psh [x] t).1, (psh [x] t).2) else psh (held ++ [x]) t
theorem psh_ord : ∀ (xs held : List Int), ord f (held ++ xs) = (psh f held xs).1 ++ ord f (psh f held xs).2
  | [], held => by simp [psh]
  | x :: t, held => by
    rw [psh]
    split
    · rename_i h
      rw [ord_split f held t x (by omega)]
      have := psh_ord t [x]
      simp only [List.singleton_append] at this
      rw [this]; simp
    · have := psh_ord t (held ++ [x])
      simpa using this
theorem psh_append : ∀ (xs ys held : List Int), psh f held (xs ++ ys) = ((psh f held xs).1 ++ (psh f (psh f held xs).2 ys).1, (psh f (psh f held xs).2 ys).2)
  | [], ys, held => by simp [psh]
  | x :: t, ys, held => by
    rw [List.cons_append, psh, psh]
    split
    · rw [psh_append t ys [x]]; simp
    · rw [psh_append t ys (held ++ [x])]
end
end Go.Proofs.YtpdacbiiaglodaaGreat
