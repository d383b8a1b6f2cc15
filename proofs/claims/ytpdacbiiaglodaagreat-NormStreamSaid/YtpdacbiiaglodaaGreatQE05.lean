/-
  LAYER 6 (norm), plain: the merge in place, its searches and its steps. No program, no world.
-/
import Derived.Test.YtpdacbiiaglodaaGreatQE04
import Derived.Test.YtpdacbiiaglodaaGreatQE03
import Derived.Test.YtpdacbiiaglodaaGreatQE02
namespace Go.Proofs.YtpdacbiiaglodaaGreat
set_option maxRecDepth 100000
open Go.Sort

/-! ### A search by halves -/
/-- Between lo and hi p holds below i, and from j on it doesn't. -/
def Srch (p : Nat → Prop) (lo hi i j : Nat) : Prop := lo ≤ i ∧ i ≤ j ∧ j ≤ hi ∧ (∀ h, lo ≤ h → h < i → p h) ∧ (∀ h, j ≤ h → h < hi → ¬ p h)
def Mono (p : Nat → Prop) (lo hi : Nat) : Prop := ∀ h h', lo ≤ h' → h' ≤ h → h < hi → p h → p h'
theorem Srch.start {p : Nat → Prop} {lo hi : Nat} (h : lo ≤ hi) : Srch p lo hi lo hi := ⟨Nat.le_refl _, h, Nat.le_refl _, fun _ h1 h2 => by omega, fun _ h1 h2 => by omega⟩
theorem Srch.up {p : Nat → Prop} {lo hi i j : Nat} (h : Srch p lo hi i j) (hm : Mono p lo hi) (hij : i < j) (hp : p ((i + j) / 2)) : Srch p lo hi ((i + j) / 2 + 1) j := by
  obtain ⟨h1, h2, h3, h4, h5⟩ := h
  exact ⟨by omega, by omega, h3, fun x a b => hm ((i + j) / 2) x a (by omega) (by omega) hp, h5⟩
theorem Srch.down {p : Nat → Prop} {lo hi i j : Nat} (h : Srch p lo hi i j) (hm : Mono p lo hi) (hij : i < j) (hp : ¬ p ((i + j) / 2)) : Srch p lo hi i ((i + j) / 2) := by
  obtain ⟨h1, h2, h3, h4, h5⟩ := h
  exact ⟨h1, by omega, by omega, h4, fun x a b hx => hp (hm x ((i + j) / 2) (by omega) a b hx)⟩

section
variable {α : Type} [Inhabited α] {key : α → Int}

theorem srt_at {d : Array α} {X S Y : List α} (h : d.toList = X ++ (S ++ Y)) (hs : Srt key S) (i j : Nat) (h1 : X.length ≤ i) (h2 : i ≤ j) (h3 : j < X.length + S.length) : key d[i]! ≤ key d[j]! := by
  have hl : d.size = X.length + S.length + Y.length := by rw [size_list d _ h]; simp; omega
  have e : ∀ x (h1 : X.length ≤ x) (h3 : x < X.length + S.length), d[x]! = S[x - X.length]'(by omega) := by
    intro x p q
    rw [getElem!_pos d x (by omega), ← Array.getElem_toList]
    simp only [h]
    rw [List.getElem_append_right p, List.getElem_append_left (by omega)]
  rw [e i h1 (by omega), e j (by omega) h3]
  rcases Nat.lt_or_ge i j with hij | hij
  · exact List.pairwise_iff_getElem.1 hs _ _ _ _ (by omega)
  · obtain rfl : i = j := by omega
    exact Int.le_refl _
theorem at_of {d : Array α} {X S Y : List α} (h : d.toList = X ++ (S ++ Y)) (x : Nat) (h1 : X.length ≤ x) (h3 : x < X.length + S.length) : S[x - X.length]? = some d[x]! := by
  have hl : d.size = X.length + S.length + Y.length := by rw [size_list d _ h]; simp; omega
  rw [getElem!_pos d x (by omega), ← Array.getElem_toList]
  simp only [h]
  rw [List.getElem_append_right h1, List.getElem_append_left (by omega)]
  exact List.getElem?_eq_getElem _

/-! ### One element, laid into what lies behind it -/
theorem one_step (X V1 R : List α) (u : α) (d : Array α) (t : Nat) (ht : t < V1.length) (hd : d.toList = X ++ (V1.take t ++ u :: (V1.drop t ++ R))) :
    (swp d (X.length + t) (X.length + t + 1)).toList = X ++ (V1.take (t + 1) ++ u :: (V1.drop (t + 1) ++ R)) := by
  rw [List.drop_eq_getElem_cons ht] at hd
  have := swp_list d (X ++ V1.take t) [] (V1.drop (t + 1) ++ R) u V1[t] (by rw [hd]; simp only [List.append_assoc, List.cons_append, List.nil_append])
  rw [show (X ++ V1.take t).length = X.length + t by simp; omega, List.length_nil, Nat.add_zero] at this
  rw [this, take_step ht]
  simp only [List.append_assoc, List.cons_append, List.nil_append]
theorem last_step (X U2 R : List α) (v : α) (d : Array α) (t : Nat) (ht : t < U2.length) (hd : d.toList = X ++ (U2.take (t + 1) ++ v :: (U2.drop (t + 1) ++ R))) :
    (swp d (X.length + t + 1) (X.length + t)).toList = X ++ (U2.take t ++ v :: (U2.drop t ++ R)) := by
  rw [take_step ht] at hd
  have := swp_list' d (X ++ U2.take t) [] (U2.drop (t + 1) ++ R) U2[t] v (by rw [hd]; simp only [List.append_assoc, List.cons_append, List.nil_append])
  rw [show (X ++ U2.take t).length = X.length + t by simp; omega, List.length_nil, Nat.add_zero] at this
  rw [this, List.drop_eq_getElem_cons ht]
  simp only [List.append_assoc, List.cons_append, List.nil_append]

omit [Inhabited α] in
theorem srt_take {S : List α} (h : Srt key S) (n : Nat) : Srt key (S.take n) := (srt_append.1 (by rw [List.take_append_drop]; exact h : Srt key (S.take n ++ S.drop n))).1
omit [Inhabited α] in
theorem srt_drop {S : List α} (h : Srt key S) (n : Nat) : Srt key (S.drop n) := (srt_append.1 (by rw [List.take_append_drop]; exact h : Srt key (S.take n ++ S.drop n))).2.1
omit [Inhabited α] in
theorem stm_one {u : α} {V V1 V2 : List α} (hV : Srt key V) (e : V = V1 ++ V2) (h1 : ∀ v ∈ V1, key v < key u) (h2 : ∀ v ∈ V2, key u ≤ key v) : StM key ([u] ++ V) (V1 ++ u :: V2) := by
  subst e
  have a := srt_append.1 hV
  refine ⟨?_, ?_, by simp; omega⟩
  · have : Flt key (([u] ++ V1) ++ V2) ((V1 ++ [u]) ++ V2) := Flt.append (Flt.comm fun x hx y hy => by rw [List.mem_singleton.1 hx]; exact h1 y hy) (Flt.refl key V2)
    simpa using this
  · refine srt_append.2 ⟨a.1, List.pairwise_cons.2 ⟨h2, a.2.1⟩, ?_⟩
    intro x hx y hy
    rcases List.mem_cons.1 hy with rfl | hy
    · have := h1 x hx; omega
    · exact a.2.2 x hx y hy
omit [Inhabited α] in
theorem stm_last {v : α} {U U1 U2 : List α} (hU : Srt key U) (e : U = U1 ++ U2) (h1 : ∀ u ∈ U1, key u ≤ key v) (h2 : ∀ u ∈ U2, key v < key u) : StM key (U ++ [v]) (U1 ++ v :: U2) := by
  subst e
  have a := srt_append.1 hU
  refine ⟨?_, ?_, by simp⟩
  · have : Flt key (U1 ++ (U2 ++ [v])) (U1 ++ ([v] ++ U2)) := Flt.append (Flt.refl key U1) (Flt.comm fun x hx y hy => by rw [List.mem_singleton.1 hy]; exact h2 x hx)
    simpa using this
  · refine srt_append.2 ⟨a.1, List.pairwise_cons.2 ⟨fun y hy => by have := h2 y hy; omega, a.2.1⟩, ?_⟩
    intro x hx y hy
    rcases List.mem_cons.1 hy with rfl | hy
    · exact h1 x hx
    · exact a.2.2 x hx y hy
/-- What the first search finds. -/
theorem found_one {d : Array α} {X V Y : List α} {u : α} (hd : d.toList = X ++ ([u] ++ (V ++ Y))) (i : Nat) (hs : Srch (fun h => key d[h]! < key d[X.length]!) (X.length + 1) (X.length + 1 + V.length) i i) :
    (∀ v ∈ V.take (i - (X.length + 1)), key v < key u) ∧ (∀ v ∈ V.drop (i - (X.length + 1)), key u ≤ key v) := by
  obtain ⟨h1, _, h3, h4, h5⟩ := hs
  have hu : d[X.length]! = u := at_list d X (V ++ Y) u (by rw [hd]; simp)
  have hd' : d.toList = (X ++ [u]) ++ (V ++ Y) := by rw [hd]; simp
  have hat : ∀ k (hk : k < V.length), d[X.length + 1 + k]! = V[k] := by
    intro k hk
    have := at_of hd' (X.length + 1 + k) (by simp) (by simp; omega)
    simp only [List.length_append, List.length_singleton, Nat.add_sub_cancel_left] at this
    rw [List.getElem?_eq_getElem hk] at this
    exact (Option.some.inj this).symm
  rw [hu] at h4 h5
  constructor
  · intro v hv
    obtain ⟨k, hk, rfl⟩ := List.mem_take_iff_getElem.1 hv
    have := h4 (X.length + 1 + k) (by omega) (by omega)
    dsimp only at this
    rwa [hat k (by omega)] at this
  · intro v hv
    obtain ⟨k, hk, rfl⟩ := List.mem_drop_iff_getElem.1 hv
    have := h5 (X.length + 1 + (i - (X.length + 1) + k)) (by omega) (by omega)
    dsimp only at this
    rw [hat _ (by omega)] at this
    exact Int.not_lt.1 this
theorem found_last {d : Array α} {X U Y : List α} {v : α} (hd : d.toList = X ++ (U ++ ([v] ++ Y))) (i : Nat) (hs : Srch (fun h => key d[h]! ≤ key d[X.length + U.length]!) X.length (X.length + U.length) i i) :
    (∀ u ∈ U.take (i - X.length), key u ≤ key v) ∧ (∀ u ∈ U.drop (i - X.length), key v < key u) := by
  obtain ⟨h1, _, h3, h4, h5⟩ := hs
  have hu : d[X.length + U.length]! = v := by
    have := at_list d (X ++ U) Y v (by rw [hd]; simp)
    simpa using this
  have hat : ∀ k (hk : k < U.length), d[X.length + k]! = U[k] := by
    intro k hk
    have := at_of hd (X.length + k) (by omega) (by omega)
    rw [Nat.add_sub_cancel_left, List.getElem?_eq_getElem hk] at this
    exact (Option.some.inj this).symm
  rw [hu] at h4 h5
  constructor
  · intro u hv
    obtain ⟨k, hk, rfl⟩ := List.mem_take_iff_getElem.1 hv
    have := h4 (X.length + k) (by omega) (by omega)
    dsimp only at this
    rwa [hat k (by omega)] at this
  · intro u hv
    obtain ⟨k, hk, rfl⟩ := List.mem_drop_iff_getElem.1 hv
    have := h5 (X.length + (i - X.length + k)) (by omega) (by omega)
    dsimp only at this
    rw [hat _ (by omega)] at this
    exact Int.not_le.1 this
theorem mono_one {d : Array α} {X V Y : List α} {u : α} (hd : d.toList = X ++ ([u] ++ (V ++ Y))) (hV : Srt key V) : Mono (fun h => key d[h]! < key d[X.length]!) (X.length + 1) (X.length + 1 + V.length) := by
  intro h h' h1 h2 h3 hp
  have := srt_at (X := X ++ [u]) (S := V) (Y := Y) (by rw [hd]; simp) hV h' h (by simpa using h1) h2 (by simpa using h3)
  show key d[h']! < _
  have hp' : key d[h]! < key d[X.length]! := hp
  omega
theorem mono_last {d : Array α} {X U Y : List α} {v : α} (hd : d.toList = X ++ (U ++ ([v] ++ Y))) (hU : Srt key U) : Mono (fun h => key d[h]! ≤ key d[X.length + U.length]!) X.length (X.length + U.length) := by
  intro h h' h1 h2 h3 hp
  have := srt_at hd hU h' h h1 h2 h3
  have hp' : key d[h]! ≤ key d[X.length + U.length]! := hp
  show key d[h']! ≤ _
  omega

/-! ### The halves -/
/-- Where the third search begins and how far it goes. -/
def lo0 (a m b mid : Nat) : Nat := if mid < m then mid + m - b else a
def up0 (m mid : Nat) : Nat := if mid < m then mid else m
theorem mono_mid {d : Array α} {X U V Y : List α} (hd : d.toList = X ++ (U ++ (V ++ Y))) (hU : Srt key U) (hV : Srt key V) (a m b mid : Nat) (ha : a = X.length) (hm : m = a + U.length) (hb : b = m + V.length) (hmid : mid = (a + b) / 2) :
    Mono (fun c => key d[c]! ≤ key d[mid + m - 1 - c]!) (lo0 a m b mid) (up0 m mid) := by
  intro h h' h1 h2 h3 hp
  have hd' : d.toList = (X ++ U) ++ (V ++ Y) := by rw [hd]; simp
  have b1 : a ≤ lo0 a m b mid := by unfold lo0; split <;> omega
  have b2 : h < m ∧ h < mid + 0 ∨ h < m ∧ m ≤ mid := by unfold up0 at h3; split at h3 <;> omega
  have b3 : mid + m ≤ b + h' := by unfold lo0 at h1; split at h1 <;> omega
  have x1 := srt_at hd hU h' h (by omega) h2 (by omega)
  have x2 := srt_at hd' hV (mid + m - 1 - h) (mid + m - 1 - h') (by simp; omega) (by omega) (by simp; omega)
  have hp' : key d[h]! ≤ key d[mid + m - 1 - h]! := hp
  show key d[h']! ≤ _
  omega
/-- The place s that the third search finds parts both lists. -/
theorem found_mid {d : Array α} {X U V Y : List α} (hd : d.toList = X ++ (U ++ (V ++ Y))) (a m b mid s : Nat) (ha : a = X.length) (hm : m = a + U.length) (hb : b = m + V.length) (hmid : mid = (a + b) / 2)
    (hs : Srch (fun c => key d[c]! ≤ key d[mid + m - 1 - c]!) (lo0 a m b mid) (up0 m mid) s s) :
    a ≤ s ∧ s ≤ m ∧ s ≤ mid ∧ m ≤ mid + m - s ∧ mid + m - s ≤ b ∧
    (∀ v, (V.take (mid - s)).getLast? = some v → ∀ u, (U.drop (s - a)).head? = some u → key v < key u) ∧
    (∀ u, (U.take (s - a)).getLast? = some u → ∀ v, (V.drop (mid - s)).head? = some v → key u ≤ key v) := by
  obtain ⟨h1, _, h3, h4, h5⟩ := hs
  have hd' : d.toList = (X ++ U) ++ (V ++ Y) := by rw [hd]; simp
  have b1 : a ≤ s := by unfold lo0 at h1; split at h1 <;> omega
  have b2 : s ≤ m ∧ s ≤ mid := by unfold up0 at h3; split at h3 <;> omega
  have b3 : mid + m ≤ b + s := by unfold lo0 at h1; split at h1 <;> omega
  refine ⟨b1, b2.1, b2.2, by omega, by omega, ?_, ?_⟩
  · intro v hv u hu
    rw [List.getLast?_eq_getElem?, List.length_take] at hv
    have hvl := (List.getElem?_eq_some_iff.1 hv).1
    rw [List.length_take] at hvl
    have hml : min (mid - s) V.length = mid - s := by omega
    rw [hml, List.getElem?_take_of_lt (by omega)] at hv
    rw [List.head?_drop] at hu
    have hul := (List.getElem?_eq_some_iff.1 hu).1
    have hlt : s < up0 m mid := by unfold up0; split <;> omega
    have := h5 s (Nat.le_refl _) hlt
    dsimp only at this
    have e1 := at_of hd s (by omega) (by omega)
    rw [show s - X.length = s - a by omega, hu] at e1
    have e2 := at_of hd' (mid + m - 1 - s) (by simp; omega) (by simp; omega)
    rw [show mid + m - 1 - s - (X ++ U).length = mid - s - 1 by simp; omega, hv] at e2
    rw [← Option.some.inj e1, ← Option.some.inj e2] at this
    omega
  · intro u hu v hv
    rw [List.getLast?_eq_getElem?, List.length_take] at hu
    have hul := (List.getElem?_eq_some_iff.1 hu).1
    rw [List.length_take] at hul
    have hml : min (s - a) U.length = s - a := by omega
    rw [hml, List.getElem?_take_of_lt (by omega)] at hu
    rw [List.head?_drop] at hv
    have hvl := (List.getElem?_eq_some_iff.1 hv).1
    have hlt : lo0 a m b mid ≤ s - 1 := by unfold lo0; split <;> omega
    have := h4 (s - 1) hlt (by omega)
    dsimp only at this
    have e1 := at_of hd (s - 1) (by omega) (by omega)
    rw [show s - 1 - X.length = s - a - 1 by omega, hu] at e1
    have e2 := at_of hd' (mid + m - 1 - (s - 1)) (by simp; omega) (by simp; omega)
    rw [show mid + m - 1 - (s - 1) - (X ++ U).length = mid - s by simp; omega, hv] at e2
    rw [← Option.some.inj e1, ← Option.some.inj e2] at this
    omega
end
end Go.Proofs.YtpdacbiiaglodaaGreat

/-
  LAYER 6 (norm), plain: a list in blocks, each sorted stably. No program, no world.
-/
namespace Go.Proofs.YtpdacbiiaglodaaGreat
set_option maxRecDepth 100000

section
variable {α : Type}
/-- Whole blocks, each sorted. -/
inductive FullB (key : α → Int) (bs : Nat) : List α → List α → Prop
  | nil : FullB key bs [] []
  | snoc {P0 P A0 A : List α} : FullB key bs P0 P → StM key A0 A → A0.length = bs → FullB key bs (P0 ++ A0) (P ++ A)
/-- Blocks, the last of which may be shorter. -/
inductive RestB (key : α → Int) (bs : Nat) : List α → List α → Prop
  | last {A0 A : List α} : StM key A0 A → A0.length ≤ bs → RestB key bs A0 A
  | cons {A0 A R0 R : List α} : StM key A0 A → A0.length = bs → RestB key bs R0 R → RestB key bs (A0 ++ R0) (A ++ R)
variable {key : α → Int} {bs : Nat}
theorem FullB.rest {P0 P : List α} (h : FullB key bs P0 P) : ∀ {R0 R : List α}, RestB key bs R0 R → RestB key bs (P0 ++ R0) (P ++ R) := by
  induction h with
  | nil => intro R0 R h; exact h
  | snoc _ hA hl ih =>
    intro R0 R h
    have := ih (RestB.cons hA hl h)
    simpa using this
theorem FullB.length {P0 P : List α} (h : FullB key bs P0 P) : P.length = P0.length := by
  induction h with
  | nil => rfl
  | snoc _ hA _ ih => have := hA.2.2; simp; omega
theorem RestB.length {P0 P : List α} (h : RestB key bs P0 P) : P.length = P0.length := by
  induction h with
  | last hA _ => exact hA.2.2
  | cons hA _ _ ih => have := hA.2.2; simp; omega
theorem stm_nil : StM key ([] : List α) [] := StM.self List.Pairwise.nil
theorem RestB.one {R0 R : List α} (h : RestB key bs R0 R) : R0.length ≤ bs → StM key R0 R := by
  cases h with
  | last hA _ => exact fun _ => hA
  | cons hA hl hR =>
    rename_i A0 A R0 R
    intro hle
    have h0 : R0 = [] := List.length_eq_zero_iff.1 (by rw [List.length_append] at hle; omega)
    have h1 : R = [] := List.length_eq_zero_iff.1 (by rw [hR.length, h0]; rfl)
    rw [h0, h1, List.append_nil, List.append_nil]
    exact hA
theorem RestB.front {R0 R : List α} (h : RestB key bs R0 R) (hlt : bs < R0.length) : ∃ A0 A T0 T, R0 = A0 ++ T0 ∧ R = A ++ T ∧ StM key A0 A ∧ A0.length = bs ∧ RestB key bs T0 T := by
  cases h with
  | last _ hl => exact absurd hlt (Nat.not_lt.2 hl)
  | cons hA hl hR => exact ⟨_, _, _, _, rfl, rfl, hA, hl, hR⟩
theorem RestB.two {R0 R : List α} (h : RestB key bs R0 R) (hp : 0 < bs) (hlt : bs + bs ≤ R0.length) : ∃ A0 A B0 B T0 T, R0 = A0 ++ (B0 ++ T0) ∧ R = A ++ (B ++ T) ∧ StM key A0 A ∧ StM key B0 B ∧ A0.length = bs ∧ B0.length = bs ∧ RestB key bs T0 T := by
  obtain ⟨A0, A, T0, T, rfl, rfl, hA, hl, hR⟩ := h.front (by omega)
  rw [List.length_append] at hlt
  by_cases h1 : bs < T0.length
  · obtain ⟨B0, B, S0, S, rfl, rfl, hB, hlB, hS⟩ := hR.front h1
    exact ⟨A0, A, B0, B, S0, S, rfl, rfl, hA, hB, hl, hlB, hS⟩
  · exact ⟨A0, A, T0, T, [], [], by simp, by simp, hA, hR.one (by omega), hl, by omega, .last stm_nil (Nat.zero_le _)⟩
theorem StM.two {A0 A B0 B M : List α} (hA : StM key A0 A) (hB : StM key B0 B) (h : StM key (A ++ B) M) : StM key (A0 ++ B0) M :=
  StM.trans (Flt.append hA.1 hB.1) (by rw [List.length_append, List.length_append, hA.2.2, hB.2.2]) h
end
end Go.Proofs.YtpdacbiiaglodaaGreat

/-
  LAYER 6 (norm): A RANGE OVER A FUNCTION WHOSE ITERATOR READS WHAT THE ROUNDS TURN: what it needs is a word on the world (V), which the rounds keep. One law for the caller, after range_tells4. No program is named here.
-/
namespace Go.Proofs.YtpdacbiiaglodaaGreat
set_option maxRecDepth 100000
open Go.RowKit

/-- What an iterator promises: called with yield, it calls yield at what it tells, as long as rounds go on; behind each round it finds V. -/
def TellsV {α : Type} (F : Fence) (n : Nat) (P : Program) (g : Nat) (lb : Array Value) (encs : α → Array Value) (Ok : List α → α → World → Prop) (V : List α → World → Prop) (S Sp : List α → World → Prop) : Prop :=
  ∀ (l : Nat) (J Jx : List α → World → Prop) (W : World), (∀ s A, J s A → V s A) →
    (∀ s A B, J s A → A.grownBy B none → J s B) → (∀ s A B, Jx s A → A.grownBy B none → Jx s B) →
    (∀ pre x W1, J pre W1 → Ok pre x W1 → YieldAt F (n - 1) P l (encs x) W1 fun e W' =>
      (e = .returned (.bool true) ∧ J (pre ++ [x]) W') ∨ (e = .returned (.bool false) ∧ Jx (pre ++ [x]) W')) →
    J [] W →
    CallsIn F n P g (#[.func (.yield l) #[] #[]] ++ lb) W fun e W' => (∃ v, e = .returned v) ∧ ((∃ xs, S xs W' ∧ J xs W') ∨ (∃ pre, Sp pre W' ∧ Jx pre W'))

/-- How a round's body may be left. -/
def roundLeftV {α : Type} (n0 : Nat) (I : List α → World → Prop) (Ix : Code → List α → World → Prop) (xs : List α) (W : World) : Exit → Act → World → Prop
  | .normal, _, W' => KeepsFrom n0 W W' ∧ I xs W'
  | .ret, _, W' => KeepsFrom n0 W W' ∧ Ix .ret xs W'
  | .exit i, _, W' => KeepsFrom n0 W W' ∧ Ix (.exit i) xs W'
  | .goto i, _, W' => KeepsFrom n0 W W' ∧ Ix (.goto i) xs W'
  | .panic _, _, _ => False
  | .outgrown, _, _ => False

set_option maxHeartbeats 4000000 in
theorem range_tellsV {α : Type} {F : Fence} {n : Nat} {P : Program} {g : Operand} {ps : Array Tmp} {assign body : Code} {Q : Exit → Act → World → Prop} {a : Act} {w : World}
    (hro : F.round = none) (h1 : 1 ≤ n) {gf : Nat} {lb : Array Value} (hg : a.eval g = .func (.func gf) #[] lb) (hFg : F.fn gf) (eg : ∀ args w, (callFunc gf args).run P w = .ok (.enter gf args) w)
    {encs : α → Array Value} {Ok : List α → α → World → Prop} {V : List α → World → Prop} {S Sp : List α → World → Prop}
    (hseq : TellsV F (n - 1) P gf lb encs Ok V S Sp) (hps : ∀ x, (encs x).size = ps.size)
    (hOk : ∀ pre x A B k o, Ok pre x A → A.grownBy B (some k) → A.heap[k]? = some o → o.isCells = false → Ok pre x B)
    (I : List α → World → Prop) (Ix : Code → List α → World → Prop) (hV : ∀ s A, I s A → V s A) (hn : ∀ s A, I s A → w.heap.size ≤ A.heap.size)
    (hI : ∀ s A B k, I s A → A.grownBy B k → (k = none ∨ (∃ q, k = some q ∧ w.heap.size ≤ q ∧ ∀ o, A.heap[q]? = some o → o.isCells = false)) → I s B)
    (hIx : ∀ c s A B k, Ix c s A → A.grownBy B k → (k = none ∨ (∃ q, k = some q ∧ w.heap.size ≤ q ∧ ∀ o, A.heap[q]? = some o → o.isCells = false)) → Ix c s B)
    (h0 : I [] w) (Ax : α → Act → World → Prop)
    (hOk0 : ∀ pre x A B, Ok pre x A → A.grownBy B none → Ok pre x B)
    (hAx : ∀ x a' A B k o, Ax x a' A → A.grownBy B (some k) → A.heap[k]? = some o → o.isCells = false → Ax x a' B)
    (hassign : ∀ (l : Nat) (x : α) (W : World) (K : Act → World → Prop), (∀ a' W', W.grownBy W' none → Ax x a' W' → K a' W') →
      assign.wpIn (F.inRound l) (n - 1 - 1) P (Exit.then K (fun _ _ _ => False)) { tmps := (ps.zip (encs x)).foldl (fun t (p, v) => t.setIfInBounds p v) a.tmps, defers := [] } W)
    (hbody : ∀ (l : Nat) (pre : List α) (x : α) (a' : Act) (W : World), I pre W → Ok pre x W → Ax x a' W → w.heap.size ≤ W.heap.size → body.wpIn (F.inRound l) (n - 1 - 1) P (roundLeftV w.heap.size I Ix (pre ++ [x]) W) a' W)
    (hdone : ∀ (D : Nat) (xs : List α) (W W' : World), w.heap.size ≤ D → S xs W → I xs W' → W.grownBy W' (some (D + 1)) → W'.heap[D]? = some (.deferred (some [])) → Q .normal { a with defers := { target := .collected D, args := #[] } :: a.defers } W')
    (hstop : ∀ (D : Nat) (c : Code) (pre : List α) (W W' : World), w.heap.size ≤ D → Sp pre W → Ix c pre W' → W.grownBy W' (some (D + 1)) → W'.heap[D]? = some (.deferred (some [])) → c.wpIn F n P Q { a with defers := { target := .collected D, args := #[] } :: a.defers } W') :
    (Code.rangeFunc g ps assign body).wpIn F n P Q a w := by
  refine wpIn_rangeFunc fun fn hfn => ?_
  rw [hro]
  -- the loop's record, in each of its states
  let rec' : LoopState → Option Code → Loop := fun st pe => { state := st, pending := pe, fn, tmps := a.tmps, params := ps, assign, body, defers := w.heap.size }
  obtain ⟨R, hR⟩ : ∃ R, R = rec' := ⟨_, rfl⟩
  obtain ⟨D, hD⟩ : ∃ D, D = w.heap.size := ⟨_, rfl⟩
  obtain ⟨U, hU⟩ : ∃ U, U = (w.alloc (.deferred (some []))).alloc (.loop (R .ready none)) := ⟨_, rfl⟩
  have gV : w.grownBy U none := by rw [hU]; exact (World.grownBy_alloc w _ none).trans (World.grownBy_alloc _ _ none)
  have lV : U.heap[D + 1]? = some (.loop (R .ready none)) := by
    rw [hU, hD]
    have := World.alloc_heap_new (w.alloc (.deferred (some []))) (.loop (R .ready none))
    rwa [World.size_alloc] at this
  have dV : U.heap[D]? = some (.deferred (some [])) := by
    rw [hU, hD]
    exact ((World.grownBy_alloc (w.alloc (.deferred (some []))) (.loop (R .ready none)) none).block w.heap.size (by simp) (by simp)).trans (World.alloc_heap_new w _)
  have iV : I [] U := hI _ _ _ (some D) h0 (gbut gV _) (.inr ⟨D, rfl, by omega, fun o ho => by have := (Array.getElem?_eq_some_iff.1 ho).1; omega⟩)
  refine ⟨D + 1, [{ target := .collected D, args := #[] }], U, { target := .fn (.func gf) lb, args := #[.func (.yield (D + 1)) #[] #[]] }, U, gf, #[.func (.yield (D + 1)) #[] #[]] ++ lb, U, ?_, ?_, ?_, ?_, fun _ => h1, ?_⟩
  · rw [hU, hR, hD]; exact run_enterLoop_outer _ _ _ _ _
  · simp only [resolve, hg]
    simp [go_sem]
  · intro f' hf'; simp [Target.leads] at hf'; subst hf'; exact hFg
  · simp [invoke, go_sem, eg]
  · have keepD : ∀ {A B : World} {q : Option Nat} {o : Obj}, A.grownBy B q → q ≠ some D → A.heap[D]? = some o → B.heap[D]? = some o := fun h hq ho => (h.block D (Array.getElem?_eq_some_iff.1 ho).1 (fun e => hq e.symm)).trans ho
    have keepL : ∀ {A B : World} {q : Option Nat} {o : Obj}, A.grownBy B q → q ≠ some (D + 1) → A.heap[D + 1]? = some o → B.heap[D + 1]? = some o := fun h hq ho => (h.block (D + 1) (Array.getElem?_eq_some_iff.1 ho).1 (fun e => hq e.symm)).trans ho
    refine (hseq (D + 1) (fun pre W => I pre W ∧ W.heap[D + 1]? = some (.loop (R .ready none)) ∧ W.heap[D]? = some (.deferred (some [])))
      (fun pre W => ∃ c, Ix c pre W ∧ W.heap[D + 1]? = some (.loop (R .done (some c))) ∧ W.heap[D]? = some (.deferred (some []))) U
      (fun s A h => hV s A h.1) ?_ ?_ ?_ ⟨iV, lV, dV⟩).mono ?_
    · rintro s A B ⟨h2, h3, h4⟩ hAB
      exact ⟨hI _ _ _ none h2 hAB (.inl rfl), keepL hAB (by simp) h3, keepD hAB (by simp) h4⟩
    · rintro s A B ⟨c, h2, h3, h4⟩ hAB
      exact ⟨c, hIx _ _ _ _ none h2 hAB (.inl rfl), keepL hAB (by simp) h3, keepD hAB (by simp) h4⟩
    · -- one round
      rintro pre x W ⟨h2, h3, h4⟩ hok
      have hsz := hn _ _ h2
      have hlt : D + 1 < W.heap.size := (Array.getElem?_eq_some_iff.1 h3).1
      have hy := run_yield (P := P) (args := encs x) h3 (by rw [hR]; exact hps x)
      rw [hR] at hy
      refine ⟨fn, _, assign, body, hy, roundIn_of_wpIn hfn (hassign _ x W _ fun a' Wa gA hax => ?_)⟩
      have h2a : I pre Wa := hI _ _ _ (some D) h2 (gbut gA _) (.inr ⟨D, rfl, by omega, fun o ho => by rw [h4] at ho; cases ho; rfl⟩)
      have h3a := keepL gA (by simp) h3
      have h4a := keepD gA (by simp) h4
      have hsza := Nat.le_trans hsz gA.size
      have hoka := hOk0 _ _ _ _ hok gA
      have hlta : D + 1 < Wa.heap.size := (Array.getElem?_eq_some_iff.1 h3a).1
      refine ⟨_, run_beginRound h3a (by rw [hR]), ?_⟩
      obtain ⟨o2, ho2⟩ : ∃ o2 : Loop, o2 = { R .ready none with state := .busy } := ⟨_, rfl⟩
      rw [← ho2]
      have gU := putObj_grown Wa (D + 1) (.loop o2)
      have lU : (Wa.putObj (D + 1) (.loop o2)).heap[D + 1]? = some (.loop o2) := World.putObj_heap_same hlta
      have dU := keepD gU (by simp) h4a
      refine wpIn_mono (hbody _ pre x a' _ (hI _ _ _ _ h2a gU (.inr ⟨_, rfl, by omega, fun o ho => by rw [h3a] at ho; cases ho; rfl⟩)) (hOk _ _ _ _ _ _ hoka gU h3a rfl) (hAx _ _ _ _ _ _ hax gU h3a rfl) (Nat.le_trans hsza gU.size)) ?_
      have fin : ∀ (jump : Option Code) (W3 : World), KeepsFrom w.heap.size (Wa.putObj (D + 1) (.loop o2)) W3 → ∃ W4, (Instr.endRound (D + 1) jump).run P W3 = .ok (.bool jump.isNone) W4 ∧ W3.grownBy W4 (some (D + 1)) ∧
          W4.heap[D + 1]? = some (.loop (R (if jump.isNone then .ready else .done) jump)) ∧ W4.heap[D]? = some (.deferred (some [])) ∧ (∀ o, W3.heap[D + 1]? = some o → o.isCells = false) := by
        intro jump W3 hk
        have l3 := hk.same _ _ (by omega) lU rfl
        have d3 := hk.same _ _ (by omega) dU rfl
        have hrun := run_endRound (P := P) jump l3
        have g4 := putObj_grown W3 (D + 1) (.loop (R (if jump.isNone then .ready else .done) jump))
        refine ⟨_, ?_, g4, World.putObj_heap_same (Array.getElem?_eq_some_iff.1 l3).1, keepD g4 (by simp) d3, fun o ho => by rw [l3] at ho; cases ho; rfl⟩
        rw [hrun, ho2, hR]
      rintro e a3 W3 hp
      cases e with
      | normal =>
        obtain ⟨p1, p3⟩ := hp
        obtain ⟨W4, q1, q2, q3, q4, q6⟩ := fin none W3 p1
        exact ⟨_, _, q1, .inl ⟨rfl, ⟨hI _ _ _ _ p3 q2 (.inr ⟨_, rfl, by omega, q6⟩), q3, q4⟩⟩⟩
      | ret =>
        obtain ⟨p1, p3⟩ := hp
        obtain ⟨W4, q1, q2, q3, q4, q6⟩ := fin (some .ret) W3 p1
        exact ⟨_, _, q1, .inr ⟨rfl, ⟨.ret, hIx _ _ _ _ _ p3 q2 (.inr ⟨_, rfl, by omega, q6⟩), q3, q4⟩⟩⟩
      | exit i =>
        obtain ⟨p1, p3⟩ := hp
        obtain ⟨W4, q1, q2, q3, q4, q6⟩ := fin (some (.exit i)) W3 p1
        exact ⟨_, _, q1, .inr ⟨rfl, ⟨.exit i, hIx _ _ _ _ _ p3 q2 (.inr ⟨_, rfl, by omega, q6⟩), q3, q4⟩⟩⟩
      | goto i =>
        obtain ⟨p1, p3⟩ := hp
        obtain ⟨W4, q1, q2, q3, q4, q6⟩ := fin (some (.goto i)) W3 p1
        exact ⟨_, _, q1, .inr ⟨rfl, ⟨.goto i, hIx _ _ _ _ _ p3 q2 (.inr ⟨_, rfl, by omega, q6⟩), q3, q4⟩⟩⟩
      | panic ch => exact hp.elim
      | outgrown => exact hp.elim
    · -- behind the iterator
      rintro e W2 ⟨⟨v, rfl⟩, (⟨xs, hS, h2, h3, h4⟩ | ⟨pre, hS, c, h2, h3, h4⟩)⟩
      · have hrun := run_endLoop (P := P) h3 (by rw [hR]; simp [rec'])
        have g4 := putObj_grown W2 (D + 1) (.loop { R .ready none with state := .exhausted })
        refine ⟨none, _, by rw [hrun, hR], ?_⟩
        rw [← hR]
        exact hdone D xs W2 _ (by omega) hS (hI _ _ _ _ h2 g4 (.inr ⟨_, rfl, by omega, fun o ho => by rw [h3] at ho; cases ho; rfl⟩)) g4 (keepD g4 (by simp) h4)
      · have hrun := run_endLoop (P := P) h3 (by rw [hR]; simp [rec'])
        have g4 := putObj_grown W2 (D + 1) (.loop { R .done (some c) with state := .exhausted })
        refine ⟨some c, _, by rw [hrun, hR], ?_⟩
        rw [← hR]
        exact hstop D c pre W2 _ (by omega) hS (hIx _ _ _ _ _ h2 g4 (.inr ⟨_, rfl, by omega, fun o ho => by rw [h3] at ho; cases ho; rfl⟩)) g4 (keepD g4 (by simp) h4)

end Go.Proofs.YtpdacbiiaglodaaGreat

/-
  LAYER 6 (norm), plain: canonical order of code points, pieces, streams. No program, no world.
-/
namespace Go.Proofs.YtpdacbiiaglodaaGreat
set_option maxRecDepth 100000

section
variable (f : Int → Int)

/-- A code point laid into a list from behind (the list lies turned round). -/
def insB (r : Int) : List Int → List Int
  | [] => [r]
  | y :: t => if 0 < f r ∧ f r < f y then y :: insB r t else r :: y :: t
def insR (out : List Int) (r : Int) : List Int := (insB f r out.reverse).reverse
/-- The canonical order. -/
def ord (l : List Int) : List Int := l.foldl (insR f) []

theorem insB_length (r : Int) : ∀ l, (insB f r l).length = l.length + 1
  | [] => rfl
  | y :: t => by rw [insB]; split <;> simp [insB_length r t]
theorem insR_length (out : List Int) (r : Int) : (insR f out r).length = out.length + 1 := by simp [insR, insB_length]
theorem foldl_length : ∀ (l out : List Int), (l.foldl (insR f) out).length = out.length + l.length
  | [], out => rfl
  | x :: t, out => by rw [List.foldl_cons, foldl_length t, insR_length, List.length_cons]; omega
theorem ord_length (l : List Int) : (ord f l).length = l.length := by simp [ord, foldl_length]

theorem insB_split (r : Int) : ∀ l : List Int, ∃ A B, l = A ++ B ∧ insB f r l = A ++ r :: B ∧ (∀ y ∈ A, 0 < f r ∧ f r < f y) ∧ (∀ y, B.head? = some y → ¬ (0 < f r ∧ f r < f y))
  | [] => ⟨[], [], rfl, rfl, by simp, by simp⟩
  | y :: t => by
    rw [insB]
    split
    · rename_i h
      obtain ⟨A, B, e, q1, q2, q3⟩ := insB_split r t
      refine ⟨y :: A, B, by rw [e]; rfl, by rw [q1]; rfl, ?_, q3⟩
      intro z hz
      rcases List.mem_cons.1 hz with rfl | hz
      · exact h
      · exact q2 z hz
    · rename_i h
      exact ⟨[], y :: t, rfl, rfl, by simp, by simpa using h⟩
/-- Where a code point comes to stand. -/
theorem insR_split (out : List Int) (r : Int) : ∃ S1 S2, out = S1 ++ S2 ∧ insR f out r = S1 ++ r :: S2 ∧ (∀ y ∈ S2, 0 < f r ∧ f r < f y) ∧ (∀ y, S1.getLast? = some y → ¬ (0 < f r ∧ f r < f y)) := by
  obtain ⟨A, B, e, q1, q2, q3⟩ := insB_split f r out.reverse
  refine ⟨B.reverse, A.reverse, ?_, ?_, ?_, ?_⟩
  · have := congrArg List.reverse e
    simpa using this
  · rw [insR, q1]; simp
  · intro y hy; exact q2 y (by simpa using hy)
  · intro y hy; exact q3 y (by simpa using hy)

theorem insB_stop (r x : Int) (P : List Int) (hx : f x ≤ 0) : ∀ Q : List Int, insB f r (Q ++ x :: P) = insB f r (Q ++ [x]) ++ P
  | [] => by
    have : ¬ (0 < f r ∧ f r < f x) := by omega
    rw [List.nil_append, List.nil_append, insB, insB, if_neg this, if_neg this]
    rfl
  | y :: Q => by
    rw [List.cons_append, List.cons_append, insB, insB, insB_stop r x P hx Q]
    split <;> simp
theorem insB_end (r x : Int) (hx : f x ≤ 0) : ∀ Q : List Int, ∃ Q', insB f r (Q ++ [x]) = Q' ++ [x]
  | [] => by
    have : ¬ (0 < f r ∧ f r < f x) := by omega
    exact ⟨[r], by rw [List.nil_append, insB, if_neg this]; rfl⟩
  | y :: Q => by
    obtain ⟨Q', e⟩ := insB_end r x hx Q
    rw [List.cons_append, insB, e]
    split
    · exact ⟨y :: Q', rfl⟩
    · exact ⟨r :: y :: Q, rfl⟩
theorem insR_stop (P Q : List Int) (x r : Int) (hx : f x ≤ 0) : ∃ Q', insR f (P ++ x :: Q) r = P ++ x :: Q' ∧ insR f (x :: Q) r = x :: Q' := by
  obtain ⟨Q', e⟩ := insB_end f r x hx Q.reverse
  refine ⟨Q'.reverse, ?_, ?_⟩
  · rw [insR, show (P ++ x :: Q).reverse = Q.reverse ++ x :: P.reverse by simp, insB_stop f r x P.reverse hx, e]; simp
  · rw [insR, show (x :: Q).reverse = Q.reverse ++ [x] by simp, e]; simp
theorem foldl_stop (P : List Int) (x : Int) (hx : f x ≤ 0) : ∀ (B Q : List Int), B.foldl (insR f) (P ++ x :: Q) = P ++ B.foldl (insR f) (x :: Q)
  | [], Q => rfl
  | r :: B, Q => by
    obtain ⟨Q', e1, e2⟩ := insR_stop f P Q x r hx
    rw [List.foldl_cons, List.foldl_cons, e1, e2]
    exact foldl_stop P x hx B Q'
/-- A starter parts the order. -/
theorem ord_split (A B : List Int) (x : Int) (hx : f x ≤ 0) : ord f (A ++ x :: B) = ord f A ++ ord f (x :: B) := by
  unfold ord
  rw [List.foldl_append, List.foldl_cons, List.foldl_cons]
  have h1 : ∀ out, insR f out x = out ++ [x] := by
    intro out
    obtain ⟨S1, S2, e, q1, q2, q3⟩ := insR_split f out x
    cases S2 with
    | nil => rw [q1, e]; simp
    | cons y t => have := q2 y (by simp); omega
  rw [h1, h1]
  have := foldl_stop f (A.foldl (insR f) []) x hx B []
  simpa using this

/-- One piece, in order: sorted stably. -/
theorem foldl_stm : ∀ (ms L S : List Int), StM f L S → (∀ m ∈ ms, 0 < f m) → StM f (L ++ ms) (ms.foldl (insR f) S)
  | [], L, S, h, _ => by simpa using h
  | m :: ms, L, S, h, hm => by
    rw [List.foldl_cons]
    obtain ⟨S1, S2, e, q1, q2, q3⟩ := insR_split f S m
    have hm0 := hm m (by simp)
    have := h.insert e (fun y hy => (q2 y hy).2) (fun y hy => by have := q3 y hy; omega)
    rw [← q1] at this
    have := foldl_stm ms (L ++ [m]) _ this (fun y hy => hm y (by simp [hy]))
    simpa using this
theorem ord_piece (x : Int) (ms : List Int) (hm : ∀ m ∈ ms, 0 < f m) : StM f (x :: ms) (ord f (x :: ms)) := by
  have h1 : insR f [] x = [x] := rfl
  unfold ord
  rw [List.foldl_cons, h1]
  exact foldl_stm f ms [x] [x] (StM.self (List.pairwise_singleton _ _)) hm
theorem ord_nil : ord f [] = [] := rfl

/-! ### A stream -/
/-- Code points come one by one: what is finished, what is held. -/
def psh : List Int → List Int → List Int × List Int
  | held, [] => ([], held)
  | held, x :: t => if f x = 0 then (ord f held ++ (psh [x] t).1, (psh [x] t).2) else psh (held ++ [x]) t
theorem psh_ord : ∀ (xs held : List Int), ord f (held ++ xs) = (psh f held xs).1 ++ ord f (psh f held xs).2
  | [], held => by simp [psh]
  | x :: t, held => by
    rw [psh]
    split
    · rename_i h
      rw [ord_split f held t x (by omega)]
      have := psh_ord t [x]
      simp only [List.singleton_append] at this
      rw [this]; simp
    · have := psh_ord t (held ++ [x])
      simpa using this
theorem psh_append : ∀ (xs ys held : List Int), psh f held (xs ++ ys) = ((psh f held xs).1 ++ (psh f (psh f held xs).2 ys).1, (psh f (psh f held xs).2 ys).2)
  | [], ys, held => by simp [psh]
  | x :: t, ys, held => by
    rw [List.cons_append, psh, psh]
    split
    · rw [psh_append t ys [x]]; simp
    · rw [psh_append t ys (held ++ [x])]
end
end Go.Proofs.YtpdacbiiaglodaaGreat
